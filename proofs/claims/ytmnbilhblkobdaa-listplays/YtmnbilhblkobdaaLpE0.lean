
/- The walk of way (layer 21). No statement of the seat is proved here. -/
import Derived.Test.YtmnbilhblkobdaaLpD
namespace Go.Proofs.Ytmnbilhblkobdaa
open Go.RowKit

def measQ (w : World) (q : Nat) : Nat := match w.heap[q]? with
  | some (.cells cs _ _) => (match cs[1]?, cs[2]? with
    | some (Value.int _ n), some (Value.int _ k) => if n = 0 then 18446744073709551617 else (18446744073709551616 - k).toNat
    | _, _ => 0)
  | _ => 0
theorem measQ_of {w : World} {q : Nat} {t : Sp} (h : SpAt w q t) : measQ w q = if t.n = 0 then 18446744073709551617 else (18446744073709551616 - t.k).toNat := by
  unfold measQ
  rw [h]
  rfl
theorem rising_le : ∀ (K W : List Int), K.Pairwise (· < ·) → (∀ x ∈ K, x ∈ W) → K.length ≤ W.length
  | [], _, _, _ => by simp
  | k :: K, W, hp, hm => by
    have hp' := List.pairwise_cons.1 hp
    have h1 := rising_le K (W.filter fun x => decide (k < x)) hp'.2 (fun x hx => List.mem_filter.2 ⟨hm x (List.mem_cons_of_mem _ hx), by simpa using hp'.1 x hx⟩)
    have h2 : (W.filter fun x => decide (k < x)).length < W.length := List.length_filter_lt_length_iff_exists.2 ⟨k, hm k List.mem_cons_self, by simp⟩
    simp only [List.length_cons]
    omega
/-- What is passed over so far rises, and stands in the words; the last of it is t. -/
structure Ris (W : List Int) (P : List Sp) (t : Sp) : Prop where
  up : (P.map Sp.k).Pairwise (· < ·)
  mem : ∀ x ∈ P.map Sp.k, x ∈ W
  le : ∀ x ∈ P.map Sp.k, x ≤ t.k
  no : t.n = 0 → P = []
theorem Ris.nil (W : List Int) : Ris W [] Sp.zero := ⟨List.Pairwise.nil, by simp, by simp, fun _ => rfl⟩
theorem Ris.next {W : List Int} {P : List Sp} {t u : Sp} (h : Ris W P t) (hu : u.k ∈ W) (hn : u.n ≠ 0) (hb : ¬ (t.n ≠ 0 ∧ u.k ≤ t.k)) : Ris W (P ++ [u]) u := by
  have hlt : ∀ x ∈ P.map Sp.k, x < u.k := by
    intro x hx
    by_cases h0 : t.n = 0
    · rw [h.no h0] at hx; simp at hx
    · have := h.le x hx
      have h2 : ¬ u.k ≤ t.k := fun e => hb ⟨h0, e⟩
      omega
  refine ⟨?_, ?_, ?_, fun e => absurd e hn⟩
  · rw [List.map_append]
    refine List.pairwise_append.2 ⟨h.up, List.pairwise_singleton _ _, ?_⟩
    intro x hx y hy
    simp at hy
    rw [hy]
    exact hlt x hx
  · intro x hx
    rw [List.map_append] at hx
    rcases List.mem_append.1 hx with h1 | h1
    · exact h.mem x h1
    · simp at h1; rw [h1]; exact hu
  · intro x hx
    rw [List.map_append] at hx
    rcases List.mem_append.1 hx with h1 | h1
    · exact Int.le_of_lt (hlt x h1)
    · simp at h1; rw [h1]; exact Int.le_refl _
theorem Ris.len {W : List Int} {P : List Sp} {t : Sp} (h : Ris W P t) : P.length ≤ W.length := by simpa using rising_le _ _ h.up h.mem
theorem oat_mem {W : List Int} {i : Nat} (h : i < W.length) : oat W i ∈ W := by
  unfold oat
  rw [List.getElem?_eq_getElem h]
  exact List.getElem_mem h
theorem get_mem {s s1 : Wd} {a x : Int} (ha : 0 ≤ a) (h : s.get a = ((x, 0), s1)) (hc : s.c ≠ 0 ∨ s.f < 0) : x ∈ s.W := by
  unfold Wd.get at h
  split at h
  · rename_i hf
    simp only [Prod.mk.injEq] at h
    unfold Wd.fl at hf
    simp only [Bool.and_eq_true, decide_eq_true_eq] at hf
    rcases hc with hc | hc
    · exact absurd h.1.2 hc
    · have : (Wd.gt s).f = s.f := rfl
      omega
  · split at h
    · simp at h
    · rename_i hr
      simp only [Prod.mk.injEq] at h
      rw [← h.1.1]
      exact oat_mem (by omega)
/-- What stands in a way's walk: the blocks b and g (the cells), behind those that were there at its start the spots at and before. -/
structure Mq (w : World) (b g c : Nat) (J : List Sp → World → Prop) (Fp : World → Nat → Prop) (X : World) (P : List Sp) (s : Wd) (u t : Sp) : Prop where
  wd : WdAt X b g c s
  j : J P X
  k : Keeps (fun i => two b g i ∨ Fp w i) w X
  fp : ∀ i, Fp X i → Fp w i ∨ w.heap.size + 2 ≤ i
  lb : b < w.heap.size ∧ g < w.heap.size ∧ ¬ Fp w b ∧ ¬ Fp w g
  fl : ∀ i, Fp w i → i < w.heap.size
  a6 : SpAt X w.heap.size u
  a8 : SpAt X (w.heap.size + 1) t
section
variable {w X X' : World} {b g c : Nat} {fn : Nat} {cap : Array Value} {pass : List Sp → Sp → Bool} {J : List Sp → World → Prop} {Fp : World → Nat → Prop} {P : List Sp} {s : Wd} {u t : Sp}
theorem Mq.sz (h : Mq w b g c J Fp X P s u t) : w.heap.size + 2 ≤ X.heap.size := h.a8.lt
theorem Mq.nb (h : Mq w b g c J Fp X P s u t) : ¬ Fp X b ∧ ¬ Fp X g ∧ ¬ Fp X w.heap.size ∧ ¬ Fp X (w.heap.size + 1) := by
  obtain ⟨h1, h2, h3, h4⟩ := h.lb
  refine ⟨fun e => ?_, fun e => ?_, fun e => ?_, fun e => ?_⟩
  · rcases h.fp _ e with q | q
    · exact h3 q
    · omega
  · rcases h.fp _ e with q | q
    · exact h4 q
    · omega
  · rcases h.fp _ e with q | q
    · have := h.fl _ q; omega
    · omega
  · rcases h.fp _ e with q | q
    · have := h.fl _ q; omega
    · omega
theorem Mq.acc (E : PassAt fn cap pass J Fp) (h : Mq w b g c J Fp X P s u t) (k : Keeps (two b g) X X') {s' : Wd} (wd : WdAt X' b g c s') : Mq w b g c J Fp X' P s' u t := by
  obtain ⟨h1, h2, h3, h4⟩ := h.nb
  obtain ⟨l1, l2, _, _⟩ := h.lb
  obtain ⟨hj, hf⟩ := E.keep h.j k (by rintro i (e | e) <;> rw [e] <;> assumption)
  exact ⟨wd, hj, h.k.step k (fun i _ e => .inl e), fun i e => h.fp i (hf i e), h.lb, h.fl, h.a6.keeps k (by rintro (e | e) <;> omega), h.a8.keeps k (by rintro (e | e) <;> omega)⟩
theorem Mq.new (E : PassAt fn cap pass J Fp) (h : Mq w b g c J Fp X P s u t) (k : Keeps (fun _ => False) X X') : Mq w b g c J Fp X' P s u t :=
  h.acc E (k.mono fun _ _ f => f.elim) (h.wd.kept k (fun f => f) (fun f => f))
theorem Mq.set6 (E : PassAt fn cap pass J Fp) (h : Mq w b g c J Fp X P s u t) (k : Keeps (fun i => i = w.heap.size) X X') {u' : Sp} (a : SpAt X' w.heap.size u') : Mq w b g c J Fp X' P s u' t := by
  obtain ⟨h1, h2, h3, h4⟩ := h.nb
  obtain ⟨l1, l2, _, _⟩ := h.lb
  obtain ⟨hj, hf⟩ := E.keep h.j k (by rintro i e; rw [e]; assumption)
  exact ⟨h.wd.kept k (by omega) (by omega), hj, h.k.step k (fun i hi e => by omega), fun i e => h.fp i (hf i e), h.lb, h.fl, a, h.a8.keeps k (by omega)⟩
theorem Mq.set8 (E : PassAt fn cap pass J Fp) (h : Mq w b g c J Fp X P s u t) (k : Keeps (fun i => i = w.heap.size + 1) X X') {t' : Sp} (a : SpAt X' (w.heap.size + 1) t') : Mq w b g c J Fp X' P s u t' := by
  obtain ⟨h1, h2, h3, h4⟩ := h.nb
  obtain ⟨l1, l2, _, _⟩ := h.lb
  obtain ⟨hj, hf⟩ := E.keep h.j k (by rintro i e; rw [e]; assumption)
  exact ⟨h.wd.kept k (by omega) (by omega), hj, h.k.step k (fun i hi e => by omega), fun i e => h.fp i (hf i e), h.lb, h.fl, h.a6.keeps k (by omega), a⟩
theorem Mq.call (h : Mq w b g c J Fp X P s u t) (k : Keeps (Fp X) X X') {P' : List Sp} (hj : J P' X') (hf : ∀ i, Fp X' i → Fp X i ∨ X.heap.size ≤ i) : Mq w b g c J Fp X' P' s u t := by
  obtain ⟨h1, h2, h3, h4⟩ := h.nb
  have hs := h.sz
  refine ⟨h.wd.kept k h1 h2, hj, h.k.step k (fun i hi e => ?_), fun i e => ?_, h.lb, h.fl, h.a6.keeps k h3, h.a8.keeps k h4⟩
  · rcases h.fp i e with q | q
    · exact .inr q
    · omega
  · rcases hf i e with q | q
    · exact h.fp i q
    · exact .inr (by omega)
end
/-- What stands at a round's beginning. -/
structure Wy (w : World) (b g c : Nat) (s0 : Wd) (l : Int) (pass : List Sp → Sp → Bool) (J : List Sp → World → Prop) (Fp : World → Nat → Prop) (X : World) (m : Nat) (u t : Sp) (a : Int) (P : List Sp) (s : Wd) : Prop where
  eq : s0.way pass l = way pass (m + 1) t a P s
  fu : (t.n = 0 ∧ m + 1 = FU) ∨ (t.n ≠ 0 ∧ FU ≤ m + t.k.toNat + 2)
  mq : Mq w b g c J Fp X P s u t
  ok : t.Ok
  aw : isW a
  ris : Ris s.W P t
  ce : s.c ≠ 0 ∨ s.f < 0
theorem Wy.next {w : World} {b g c : Nat} {s0 : Wd} {l : Int} {pass : List Sp → Sp → Bool} {J : List Sp → World → Prop} {Fp : World → Nat → Prop} {X X' : World} {m : Nat} {u t t1 u' : Sp} {a : Int} {P : List Sp} {s s1 : Wd} (h : Wy w b g c s0 l pass J Fp X m u t a P s)
    (hf : s.follow a = ((t1, 0), s1)) (hn : t1.n ≠ 0) (hb : ¬ (t.n ≠ 0 ∧ t1.k ≤ t.k)) (hp : pass P t1 = true) (ht1 : t1.Ok) (hk : t1.k ∈ s.W) (hW : s1.W = s.W) (hc : s1.c = s.c ∧ s1.f = s.f) (mq : Mq w b g c J Fp X' (P ++ [t1]) s1 u' t1) :
    ∃ m', Wy w b g c s0 l pass J Fp X' m' u' t1 (ld t1.nd) (P ++ [t1]) s1 := by
  have hw := ht1.2.2
  unfold isW at hw
  have hwt := h.ok.2.2
  unfold isW at hwt
  have hm : ∃ m', m = m' + 1 := by
    cases m with
    | zero =>
      rcases h.fu with ⟨_, q⟩ | ⟨_, q⟩
      · unfold FU at q; omega
      · have h2 : ¬ t1.k ≤ t.k := fun e => hb ⟨‹_›, e⟩
        unfold FU at q; omega
    | succ m' => exact ⟨m', rfl⟩
  obtain ⟨m', rfl⟩ := hm
  refine ⟨m', h.eq.trans (way_next hf hn hb hp), .inr ⟨hn, ?_⟩, mq, ht1, uw_isW _, ?_, by rw [hc.1, hc.2]; exact h.ce⟩
  · rcases h.fu with ⟨_, q⟩ | ⟨q0, q⟩
    · omega
    · have h2 : ¬ t1.k ≤ t.k := fun e => hb ⟨q0, e⟩
      omega
  · rw [hW]
    exact h.ris.next hk hn hb
end Go.Proofs.Ytmnbilhblkobdaa
