
/- Pure (layer 22): a node hung into a skip list, and one taken out of it, by the cells that change. No statement of the seat is proved here. -/
import Derived.Test.YtifmpiiaebnbiaaSnC
namespace Go.Proofs.Ytifmpiiaebnbiaa
open Go.RowKit

/-- The cell of the last link of a level, whose first one is c. -/
def celF (i : Nat) : Nat → List Sn → Nat
  | c, [] => c
  | c, q :: r => if i < q.h then celF i (q.a + 2 + i) r else celF i c r
theorem celF_yes {i c : Nat} {q : Sn} {r : List Sn} (h : i < q.h) : celF i c (q :: r) = celF i (q.a + 2 + i) r := by rw [celF, if_pos h]
theorem celF_no {i c : Nat} {q : Sn} {r : List Sn} (h : ¬ i < q.h) : celF i c (q :: r) = celF i c r := by rw [celF, if_neg h]
theorem cel_eq {i : Nat} : ∀ (P : List Sn) (base : Nat), cel i base P = celF i (base + i) P
  | [], _ => rfl
  | q :: r, base => by
    by_cases h : i < q.h
    · rw [cel_yes h, celF_yes h]; exact cel_eq r _
    · rw [cel_no h, celF_no h]; exact cel_eq r _
theorem celF_in {i : Nat} : ∀ (P : List Sn) (c : Nat), (celF i c P = c ∧ ∀ q ∈ P, q.h ≤ i) ∨ ∃ q ∈ P, celF i c P = q.a + 2 + i ∧ i < q.h
  | [], c => .inl ⟨rfl, by simp⟩
  | q :: r, c => by
    by_cases h : i < q.h
    · rw [celF_yes h]
      rcases celF_in r (q.a + 2 + i) with ⟨e, _⟩ | ⟨x, hx, e⟩
      · exact .inr ⟨q, by simp, e, h⟩
      · exact .inr ⟨x, by simp [hx], e⟩
    · rw [celF_no h]
      rcases celF_in r c with ⟨e, h2⟩ | ⟨x, hx, e⟩
      · exact .inl ⟨e, fun x hx => by
          rcases List.mem_cons.1 hx with rfl | hx
          · omega
          · exact h2 x hx⟩
      · exact .inr ⟨x, by simp [hx], e⟩
def inN (q : Sn) (c : Nat) : Prop := q.a ≤ c ∧ c < q.a + 2 + q.h
/-- The front of links, and the nodes behind it, are apart. -/
structure Apt (f : Nat → Nat) (R : List Sn) : Prop where
  inj : ∀ i j, i < 8 → j < 8 → f i = f j → i = j
  fr : ∀ i, i < 8 → ∀ q ∈ R, ¬ inN q (f i)
  pc : R.Pairwise fun a b => ∀ c, ¬ (inN a c ∧ inN b c)
def upd (f : Nat → Nat) (q : Sn) : Nat → Nat := fun i => if i < q.h then q.a + 2 + i else f i
theorem Apt.pass {f : Nat → Nat} {q : Sn} {R : List Sn} (h : Apt f (q :: R)) : Apt (upd f q) R := by
  have hp := List.pairwise_cons.1 h.pc
  refine ⟨fun i j hi hj e => ?_, fun i hi x hx hin => ?_, hp.2⟩
  · unfold upd at e
    by_cases h1 : i < q.h
    · by_cases h2 : j < q.h
      · rw [if_pos h1, if_pos h2] at e; omega
      · rw [if_pos h1, if_neg h2] at e
        exact absurd ⟨by omega, by omega⟩ (h.fr j hj q (by simp))
    · by_cases h2 : j < q.h
      · rw [if_neg h1, if_pos h2] at e
        exact absurd ⟨by omega, by omega⟩ (h.fr i hi q (by simp))
      · rw [if_neg h1, if_neg h2] at e; exact h.inj i j hi hj e
  · unfold upd at hin
    by_cases h1 : i < q.h
    · rw [if_pos h1] at hin
      exact hp.1 x hx _ ⟨⟨by omega, by omega⟩, hin⟩
    · rw [if_neg h1] at hin
      exact h.fr i hi x (by simp [hx]) hin
structure SlF (W : List Int) (f : Nat → Nat) (R : List Sn) : Prop where
  lnk : ∀ i, i < 8 → oat W (f i) = nxt i R
  ns : Ns W R
theorem ns_keep {W W' : List Int} (hl : W'.length = W.length) : ∀ {R : List Sn}, (∀ q ∈ R, ∀ c, inN q c → oat W' c = oat W c) → Ns W R → Ns W' R
  | [], _, _ => trivial
  | q :: r, hc, h => by
    have k := hc q (by simp)
    have hq := h.1
    refine ⟨⟨by rw [k _ ⟨by omega, by omega⟩]; exact hq.1, by rw [k _ ⟨by omega, by omega⟩]; exact hq.2.1, hq.2.2.1, hq.2.2.2.1, by rw [hl]; exact hq.2.2.2.2⟩, fun i hi => ?_, ns_keep hl (fun x hx => hc x (by simp [hx])) h.2.2⟩
    rw [k _ ⟨by omega, by omega⟩]
    exact h.2.1 i hi
theorem SlF.pass {W : List Int} {f : Nat → Nat} {q : Sn} {R : List Sn} (h : SlF W f (q :: R)) : SlF W (upd f q) R :=
  ⟨fun i hi => by
    unfold upd
    by_cases h1 : i < q.h
    · rw [if_pos h1]; exact h.ns.2.1 i h1
    · rw [if_neg h1, h.lnk i hi]; exact nxt_no h1, h.ns.2.2⟩
theorem upd_cel {f : Nat → Nat} {q : Sn} {r : List Sn} {i : Nat} : celF i (f i) (q :: r) = celF i (upd f q i) r := by
  unfold upd
  by_cases h : i < q.h
  · rw [celF_yes h, if_pos h]
  · rw [celF_no h, if_neg h]
/-- A closed link is none of the front's. -/
theorem closed_ne {f : Nat → Nat} {q : Sn} {P R : List Sn} (h : Apt f (q :: (P ++ R))) {i j : Nat} (hi : i < q.h) (hi8 : i < 8) (hj8 : j < 8) : f i ≠ celF j (f j) (q :: P) := fun e => by
  rcases celF_in (i := j) (q :: P) (f j) with ⟨e1, h1⟩ | ⟨x, hx, e1, h1⟩
  · rw [e1] at e
    obtain rfl := h.inj i j hi8 hj8 e
    have := h1 q (by simp)
    omega
  · rw [e1] at e
    refine h.fr i hi8 x ?_ ⟨by omega, by omega⟩
    rcases List.mem_cons.1 hx with rfl | hx
    · simp
    · simp [hx]
/-- A node's own word and level are none of the front's. -/
theorem head_ne {f : Nat → Nat} {q : Sn} {P R : List Sn} (h : Apt f (q :: (P ++ R))) {j c : Nat} (hj8 : j < 8) (hc : c = q.a ∨ c = q.a + 1) (h1 : 1 ≤ q.h) : c ≠ celF j (f j) (q :: P) := fun e => by
  rcases celF_in (i := j) (q :: P) (f j) with ⟨e1, _⟩ | ⟨x, hx, e1, h2⟩
  · rw [e1] at e
    exact h.fr j hj8 q (by simp) ⟨by omega, by omega⟩
  · rw [e1] at e
    rcases List.mem_cons.1 hx with rfl | hx
    · omega
    · exact (List.pairwise_cons.1 h.pc).1 x (by simp [hx]) c ⟨⟨by omega, by omega⟩, ⟨by omega, by omega⟩⟩
theorem ins_sl {W W' : List Int} (hl : W'.length = W.length) {nd : Sn} {B : List Sn} (hnd : oat W' nd.a = nd.k ∧ oat W' (nd.a + 1) = (nd.h : Int) ∧ 1 ≤ nd.h ∧ nd.h ≤ 8 ∧ nd.a + 2 + nd.h ≤ W.length) (hown : ∀ i, i < nd.h → oat W' (nd.a + 2 + i) = nxt i B) :
    ∀ {P : List Sn} {f : Nat → Nat}, SlF W f (P ++ B) → Apt f (P ++ B) → (∀ i, i < 8 → ¬ inN nd (f i)) → (∀ q ∈ P ++ B, ∀ c, ¬ (inN nd c ∧ inN q c)) →
      (∀ i, i < nd.h → oat W' (celF i (f i) P) = (nd.a : Int) + 1) → (∀ c, ¬ inN nd c → (∀ i, i < nd.h → c ≠ celF i (f i) P) → oat W' c = oat W c) → SlF W' f (P ++ nd :: B)
  | [], f, h, ha, hf, hB, hs, hu => by
    have hk : ∀ q ∈ B, ∀ c, inN q c → oat W' c = oat W c := fun q hq c hc => hu c (fun hn => hB q hq c ⟨hn, hc⟩) (fun i hi e => ha.fr i (by omega) q hq (by rw [show f i = c from e.symm]; exact hc))
    refine ⟨fun i hi => ?_, ⟨⟨hnd.1, hnd.2.1, hnd.2.2.1, hnd.2.2.2.1, by rw [hl]; exact hnd.2.2.2.2⟩, hown, ns_keep hl hk h.ns⟩⟩
    by_cases hi2 : i < nd.h
    · rw [show ([] : List Sn) ++ nd :: B = nd :: B from rfl, nxt_yes hi2]
      exact hs i hi2
    · rw [show ([] : List Sn) ++ nd :: B = nd :: B from rfl, nxt_no hi2, hu _ (hf i hi) (fun j hj e => by have := ha.inj i j hi (by omega) e; omega)]
      exact h.lnk i hi
  | q :: P, f, h, ha, hf, hB, hs, hu => by
    have h' : SlF W f (q :: (P ++ B)) := h
    have ha' : Apt f (q :: (P ++ B)) := ha
    have hq := h'.ns.1
    have ih := ins_sl hl hnd hown (P := P) (f := upd f q) h'.pass ha'.pass (fun i hi hin => by
      unfold upd at hin
      by_cases h1 : i < q.h
      · rw [if_pos h1] at hin
        exact hB q (by simp) _ ⟨hin, by omega, by omega⟩
      · rw [if_neg h1] at hin; exact hf i hi hin) (fun x hx => hB x (by simp at hx ⊢; exact .inr hx)) (fun i hi => by rw [← upd_cel]; exact hs i hi) (fun c h1 h2 => hu c h1 (fun i hi => by rw [upd_cel]; exact h2 i hi))
    refine ⟨fun i hi => ?_, ⟨⟨?_, ?_, hq.2.2.1, hq.2.2.2.1, by rw [hl]; exact hq.2.2.2.2⟩, fun i hi => ?_, ih.ns⟩⟩
    · by_cases h1 : i < q.h
      · rw [show q :: P ++ nd :: B = q :: (P ++ nd :: B) from rfl, nxt_yes h1, hu _ (hf i hi) (fun j hj => closed_ne ha' h1 hi (by omega)), h'.lnk i hi, nxt_yes h1]
      · rw [show q :: P ++ nd :: B = q :: (P ++ nd :: B) from rfl, nxt_no h1, ← ih.lnk i hi]
        unfold upd
        rw [if_neg h1]
    · rw [hu _ (fun hn => hB q (by simp) _ ⟨hn, by omega, by omega⟩) (fun j hj => head_ne ha' (by omega) (.inl rfl) hq.2.2.1)]; exact hq.1
    · rw [hu _ (fun hn => hB q (by simp) _ ⟨hn, by omega, by omega⟩) (fun j hj => head_ne ha' (by omega) (.inr rfl) hq.2.2.1)]; exact hq.2.1
    · have e := ih.lnk i (by omega)
      unfold upd at e
      rw [if_pos hi] at e
      exact e
theorem rem_sl {W W' : List Int} (hl : W'.length = W.length) {nd : Sn} {B : List Sn} :
    ∀ {P : List Sn} {f : Nat → Nat}, SlF W f (P ++ nd :: B) → Apt f (P ++ nd :: B) →
      (∀ i, i < nd.h → oat W' (celF i (f i) P) = nxt i B) → (∀ c, ¬ inN nd c → (∀ i, i < nd.h → c ≠ celF i (f i) P) → oat W' c = oat W c) → SlF W' f (P ++ B)
  | [], f, h, ha, hs, hu => by
    have h' : SlF W f (nd :: B) := h
    have ha' : Apt f (nd :: B) := ha
    have hn := h'.ns.1
    have hp := List.pairwise_cons.1 ha'.pc
    have hk : ∀ q ∈ B, ∀ c, inN q c → oat W' c = oat W c := fun q hq c hc => hu c (fun hn => hp.1 q hq c ⟨hn, hc⟩) (fun i hi e => ha'.fr i (by omega) q (by simp [hq]) (by rw [show f i = c from e.symm]; exact hc))
    refine ⟨fun i hi => ?_, ns_keep hl hk h'.ns.2.2⟩
    by_cases hi2 : i < nd.h
    · exact hs i hi2
    · show oat W' (f i) = nxt i B
      rw [hu _ (ha'.fr i hi nd (by simp)) (fun j hj e => by have := ha'.inj i j hi (by omega) e; omega), h'.lnk i hi, nxt_no hi2]
  | q :: P, f, h, ha, hs, hu => by
    have h' : SlF W f (q :: (P ++ nd :: B)) := h
    have ha' : Apt f (q :: (P ++ nd :: B)) := ha
    have hq := h'.ns.1
    have hn := (Ns.at_ (B := P) h'.ns.2.2).1
    have hd := (List.pairwise_cons.1 ha'.pc).1 nd (by simp)
    have ih := rem_sl hl (P := P) (f := upd f q) h'.pass ha'.pass (fun i hi => by rw [← upd_cel]; exact hs i hi) (fun c h1 h2 => hu c h1 (fun i hi => by rw [upd_cel]; exact h2 i hi))
    refine ⟨fun i hi => ?_, ⟨⟨?_, ?_, hq.2.2.1, hq.2.2.2.1, by rw [hl]; exact hq.2.2.2.2⟩, fun i hi => ?_, ih.ns⟩⟩
    · by_cases h1 : i < q.h
      · rw [show q :: P ++ B = q :: (P ++ B) from rfl, nxt_yes h1, hu _ (ha'.fr i hi nd (by simp)) (fun j hj => closed_ne ha' h1 hi (by omega)), h'.lnk i hi, nxt_yes h1]
      · rw [show q :: P ++ B = q :: (P ++ B) from rfl, nxt_no h1, ← ih.lnk i hi]
        unfold upd
        rw [if_neg h1]
    · rw [hu _ (fun hc => hd _ ⟨⟨by omega, by omega⟩, hc⟩) (fun j hj => head_ne ha' (by omega) (.inl rfl) hq.2.2.1)]; exact hq.1
    · rw [hu _ (fun hc => hd _ ⟨⟨by omega, by omega⟩, hc⟩) (fun j hj => head_ne ha' (by omega) (.inr rfl) hq.2.2.1)]; exact hq.2.1
    · have e := ih.lnk i (by omega)
      unfold upd at e
      rw [if_pos hi] at e
      exact e
end Go.Proofs.Ytifmpiiaebnbiaa
