
/-
  A redo log by its Puts: its entries, what is kept for the way back, and that the way back leads back. No statement of the seat is proved here.
-/
import Derived.Test.YtmhinalgjfiliaaDoorEnt
namespace Go.Proofs.YtmhinalgjfiliaaDoor

/-- The place of an address; their number, if it is not there. -/
def idxE (es : List (Int × Int)) (a : Int) : Nat := es.findIdx (fun e => e.1 == a)
def wordE (es : List (Int × Int)) (a : Int) : Int := (es[idxE es a]?.getD (0, 0)).2
def putE (es : List (Int × Int)) (a x : Int) : List (Int × Int) := if idxE es a < es.length then es.set (idxE es a) (a, x) else es ++ [(a, x)]
def ptOf (es : List (Int × Int)) (a : Int) : Pt := if idxE es a < es.length then ⟨false, idxE es a, wordE es a⟩ else ⟨true, 0, 0⟩
def backE (es : List (Int × Int)) (p : Pt) : List (Int × Int) := if p.came then es.take (es.length - 1) else es.set p.place ((es[p.place]?.getD (0, 0)).1, p.word)
def redoS (L : List (Int × Int)) : List (Int × Int) × List Pt := L.foldl (fun s c => (putE s.1 c.1 c.2, s.2 ++ [ptOf s.1 c.1])) ([], [])
def redoE (L : List (Int × Int)) : List (Int × Int) := (redoS L).1
def redoU (L : List (Int × Int)) : List Pt := (redoS L).2

theorem snoc_ind {α : Type} {P : List α → Prop} (h0 : P []) (h1 : ∀ L c, P L → P (L ++ [c])) (L : List α) : P L := by
  rw [← List.reverse_reverse L]
  induction L.reverse with
  | nil => exact h0
  | cons c l ih => rw [List.reverse_cons]; exact h1 _ _ ih

theorem redoE_nil : redoE [] = [] := rfl
theorem redoU_nil : redoU [] = [] := rfl
theorem redoE_snoc (L : List (Int × Int)) (a x : Int) : redoE (L ++ [(a, x)]) = putE (redoE L) a x := by simp [redoE, redoS, List.foldl_append]
theorem redoU_snoc (L : List (Int × Int)) (a x : Int) : redoU (L ++ [(a, x)]) = redoU L ++ [ptOf (redoE L) a] := by simp [redoE, redoU, redoS, List.foldl_append]

theorem idxE_le (es : List (Int × Int)) (a : Int) : idxE es a ≤ es.length := List.findIdx_le_length
theorem idxE_mem {es : List (Int × Int)} {a : Int} : idxE es a < es.length ↔ a ∈ es.map Prod.fst := by
  unfold idxE
  rw [List.findIdx_lt_length]
  simp only [List.mem_map]
  constructor
  · rintro ⟨x, h1, h2⟩
    exact ⟨x, h1, by simpa using h2⟩
  · rintro ⟨x, h1, h2⟩
    exact ⟨x, h1, by simpa using h2⟩
theorem idxE_at {es : List (Int × Int)} {a : Int} (h : idxE es a < es.length) : es[idxE es a]? = some (a, wordE es a) := by
  have h1 : (es[idxE es a]).1 = a := by
    have := List.findIdx_getElem (p := fun e : Int × Int => e.1 == a) (xs := es) (w := h)
    exact beq_iff_eq.1 this
  have h2 : wordE es a = (es[idxE es a]).2 := by
    unfold wordE
    rw [List.getElem?_eq_getElem h]
    rfl
  rw [List.getElem?_eq_getElem h, h2]
  exact congrArg some (Prod.ext h1 rfl)
/-- Where addresses are all different, a place is the place of its address. -/
theorem idxE_of {es : List (Int × Int)} (hd : (es.map Prod.fst).Nodup) {i : Nat} {a x : Int} (h : es[i]? = some (a, x)) : idxE es a = i := by
  obtain ⟨hi, he⟩ := List.getElem?_eq_some_iff.1 h
  have hm : idxE es a < es.length := idxE_mem.2 (List.mem_map.2 ⟨(a, x), he ▸ List.getElem_mem hi, rfl⟩)
  have h2 := idxE_at hm
  have h1 : (es.map Prod.fst)[idxE es a]? = some a := by rw [List.getElem?_map, h2]; rfl
  have h3 : (es.map Prod.fst)[i]? = some a := by rw [List.getElem?_map, h]; rfl
  exact (List.getElem?_inj (by simpa using hm) hd).1 (h1.trans h3.symm)
theorem set_keys {es : List (Int × Int)} {a x : Int} (h : idxE es a < es.length) : (es.set (idxE es a) (a, x)).map Prod.fst = es.map Prod.fst := by
  have h1 := idxE_at h
  rw [List.map_set]
  apply List.ext_getElem?
  intro j
  rw [List.getElem?_set]
  split
  · rename_i e
    subst e
    rw [if_pos (by simpa using h), List.getElem?_map, h1]
    rfl
  · rfl
theorem putE_keys (es : List (Int × Int)) (a x : Int) : (putE es a x).map Prod.fst = if a ∈ es.map Prod.fst then es.map Prod.fst else es.map Prod.fst ++ [a] := by
  unfold putE
  by_cases h : idxE es a < es.length
  · rw [if_pos h, if_pos (idxE_mem.1 h), set_keys h]
  · rw [if_neg h, if_neg (fun hm => h (idxE_mem.2 hm))]
    simp
theorem putE_nodup {es : List (Int × Int)} (hd : (es.map Prod.fst).Nodup) (a x : Int) : ((putE es a x).map Prod.fst).Nodup := by
  rw [putE_keys]
  split
  · exact hd
  · rename_i h
    rw [List.nodup_append]
    refine ⟨hd, by simp, fun y hy z hz => ?_⟩
    simp at hz
    subst hz
    rintro rfl
    exact h hy
theorem back_put (es : List (Int × Int)) (a x : Int) : backE (putE es a x) (ptOf es a) = es := by
  unfold putE ptOf backE
  by_cases h : idxE es a < es.length
  · have h1 := idxE_at h
    simp only [if_pos h, Bool.false_eq_true, if_false]
    rw [List.getElem?_set_self h, Option.getD_some, List.set_set]
    apply List.ext_getElem?
    intro j
    rw [List.getElem?_set]
    split
    · rename_i e
      subst e
      rw [h1]
    · rfl
  · simp [if_neg h]
theorem redoE_nodup (L : List (Int × Int)) : ((redoE L).map Prod.fst).Nodup := by
  refine snoc_ind (P := fun L => ((redoE L).map Prod.fst).Nodup) (by simp [redoE_nil]) (fun L c ih => ?_) L
  rw [show c = (c.1, c.2) from rfl, redoE_snoc]
  exact putE_nodup ih _ _
theorem redoU_length (L : List (Int × Int)) : (redoU L).length = L.length := by
  refine snoc_ind (P := fun L => (redoU L).length = L.length) (by simp [redoU_nil]) (fun L c ih => ?_) L
  rw [show c = (c.1, c.2) from rfl, redoU_snoc]
  simp [ih]
theorem take_succ_at {α : Type} {L : List α} {i : Nat} {c : α} (h : L[i]? = some c) : L.take (i + 1) = L.take i ++ [c] := by
  rw [List.take_add_one, h]
  rfl
/-- What was kept at a place is what the Put there left. -/
theorem redoU_take (L : List (Int × Int)) (i : Nat) : (redoU L).take i = redoU (L.take i) := by
  refine snoc_ind (P := fun L => (redoU L).take i = redoU (L.take i)) (by simp [redoU_nil]) (fun L c ih => ?_) L
  · by_cases h : i ≤ L.length
    · rw [List.take_append_of_le_length h, ← ih, show c = (c.1, c.2) from rfl, redoU_snoc, List.take_append_of_le_length (by rw [redoU_length]; exact h)]
    · rw [List.take_of_length_le (by rw [redoU_length]; simp; omega), List.take_of_length_le (by simp; omega)]
theorem redoU_at {L : List (Int × Int)} {i : Nat} {a x : Int} (h : L[i]? = some (a, x)) : (redoU L)[i]? = some (ptOf (redoE (L.take i)) a) := by
  have hi : i < L.length := (List.getElem?_eq_some_iff.1 h).1
  have h1 := redoU_take L (i + 1)
  rw [take_succ_at h, redoU_snoc] at h1
  have h2 : ((redoU L).take (i + 1))[i]? = some (ptOf (redoE (L.take i)) a) := by
    rw [h1, List.getElem?_append_right (by rw [redoU_length, List.length_take]; omega), redoU_length, List.length_take, Nat.min_eq_left (by omega)]
    simp
  rwa [List.getElem?_take, if_pos (by omega)] at h2
/-- A step of the way back. -/
theorem redo_back {L : List (Int × Int)} {i : Nat} {a x : Int} (h : L[i]? = some (a, x)) : backE (redoE (L.take (i + 1))) (ptOf (redoE (L.take i)) a) = redoE (L.take i) := by
  rw [take_succ_at h, redoE_snoc, back_put]
theorem putE_length (es : List (Int × Int)) (a x : Int) : (putE es a x).length ≤ es.length + 1 := by
  unfold putE
  split <;> simp
theorem redoE_length (L : List (Int × Int)) : (redoE L).length ≤ L.length := by
  refine snoc_ind (P := fun L => (redoE L).length ≤ L.length) (by simp [redoE_nil]) (fun L c ih => ?_) L
  · rw [show c = (c.1, c.2) from rfl, redoE_snoc]
    have := putE_length (redoE L) c.1 c.2
    simp
    omega
end Go.Proofs.YtmhinalgjfiliaaDoor
