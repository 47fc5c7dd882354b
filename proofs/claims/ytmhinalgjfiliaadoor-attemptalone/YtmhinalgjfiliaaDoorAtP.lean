
/-
  What stands in the cells where a redo log lies over them, as lists. No program, and no statement of the seat.
-/
import Derived.Test.YtmhinalgjfiliaaDoorRedoP
import Derived.Test.YtmhinalgjfiliaaDoorKRowM
namespace Go.Proofs.YtmhinalgjfiliaaDoor

/-- The words with a redo log over them; which of them it has. -/
def nowE (ws : List Int) (wr : List (Int × Int)) : List Int := (List.range ws.length).map fun (j : Nat) => if idxE wr (j : Int) < wr.length then wordE wr (j : Int) else ws[j]?.getD 0
def hasE (n : Nat) (wr : List (Int × Int)) : List Bool := (List.range n).map fun (j : Nat) => decide (idxE wr (j : Int) < wr.length)
theorem nowE_len (ws : List Int) (wr : List (Int × Int)) : (nowE ws wr).length = ws.length := by simp [nowE]
theorem hasE_len (n : Nat) (wr : List (Int × Int)) : (hasE n wr).length = n := by simp [hasE]
theorem nowE_at (ws : List Int) (wr : List (Int × Int)) (j : Nat) (h : j < ws.length) : (nowE ws wr)[j]? = some (if idxE wr (j : Int) < wr.length then wordE wr (j : Int) else ws[j]?.getD 0) := by
  simp [nowE, h]
theorem hasE_at (n : Nat) (wr : List (Int × Int)) (j : Nat) (h : j < n) : (hasE n wr)[j]? = some (decide (idxE wr (j : Int) < wr.length)) := by
  simp [hasE, h]
theorem nowE_nil (ws : List Int) : nowE ws [] = ws := by
  apply List.ext_getElem?
  intro j
  by_cases h : j < ws.length
  · rw [nowE_at ws [] j h]
    simp [idxE, h]
  · rw [List.getElem?_eq_none (by rw [nowE_len]; omega), List.getElem?_eq_none (by omega)]
theorem hasE_nil (n : Nat) : hasE n [] = List.replicate n false := by
  apply List.ext_getElem?
  intro j
  by_cases h : j < n
  · rw [hasE_at n [] j h]
    simp [idxE, h]
  · rw [List.getElem?_eq_none (by rw [hasE_len]; omega), List.getElem?_eq_none (by simp; omega)]

theorem putE_in (es : List (Int × Int)) (d y j : Int) : idxE (putE es d y) j < (putE es d y).length ↔ j = d ∨ idxE es j < es.length := by
  rw [idxE_mem, idxE_mem, putE_keys]
  split
  · rename_i h
    constructor
    · exact .inr
    · rintro (rfl | h')
      · exact h
      · exact h'
  · rw [List.mem_append]
    simp [or_comm]
theorem putE_same {es : List (Int × Int)} (hd : (es.map Prod.fst).Nodup) (d y : Int) : wordE (putE es d y) d = y := by
  have hl : idxE (putE es d y) d < (putE es d y).length := (putE_in es d y d).2 (.inl rfl)
  by_cases h : idxE es d < es.length
  · have hp : putE es d y = es.set (idxE es d) (d, y) := if_pos h
    have h1 : (putE es d y)[idxE es d]? = some (d, y) := by rw [hp, List.getElem?_set]; simp [h]
    have h2 := idxE_of (putE_nodup hd d y) h1
    have h3 := idxE_at hl
    rw [h2, h1] at h3
    injection h3 with h3
    injection h3 with _ h3
    exact h3.symm
  · have hp : putE es d y = es ++ [(d, y)] := if_neg h
    have h1 : (putE es d y)[es.length]? = some (d, y) := by rw [hp]; simp
    have h2 := idxE_of (putE_nodup hd d y) h1
    have h3 := idxE_at hl
    rw [h2, h1] at h3
    injection h3 with h3
    injection h3 with _ h3
    exact h3.symm
theorem putE_other {es : List (Int × Int)} (hd : (es.map Prod.fst).Nodup) (d y j : Int) (hj : j ≠ d) (h : idxE es j < es.length) : wordE (putE es d y) j = wordE es j := by
  have h0 := idxE_at h
  have h1 : (putE es d y)[idxE es j]? = some (j, wordE es j) := by
    by_cases hi : idxE es d < es.length
    · have hp : putE es d y = es.set (idxE es d) (d, y) := if_pos hi
      have hne : idxE es d ≠ idxE es j := fun e => by
        have := idxE_at hi
        rw [e, h0] at this
        injection this with this
        injection this with this _
        exact hj this
      rw [hp, List.getElem?_set, if_neg hne, h0]
    · have hp : putE es d y = es ++ [(d, y)] := if_neg hi
      rw [hp, List.getElem?_append_left h, h0]
  have hl : idxE (putE es d y) j < (putE es d y).length := (putE_in es d y j).2 (.inr h)
  have h2 := idxE_of (putE_nodup hd d y) h1
  have h3 := idxE_at hl
  rw [h2, h1] at h3
  injection h3 with h3
  injection h3 with _ h3
  exact h3.symm
theorem putE_len (es : List (Int × Int)) (d y : Int) : (putE es d y).length = if idxE es d < es.length then es.length else es.length + 1 := by
  unfold putE
  split <;> simp

theorem nowE_put (ws : List Int) {wr : List (Int × Int)} (hd : (wr.map Prod.fst).Nodup) (d y : Int) (h0 : 0 ≤ d) : nowE ws (putE wr d y) = (nowE ws wr).set d.toNat y := by
  apply List.ext_getElem?
  intro j
  by_cases h : j < ws.length
  · rw [nowE_at ws _ j h, List.getElem?_set, nowE_at ws _ j h, nowE_len]
    by_cases hj : (j : Int) = d
    · have e : d.toNat = j := by omega
      rw [if_pos ((putE_in wr d y j).2 (.inl hj)), if_pos e, if_pos (by omega), hj, putE_same hd]
    · have e : ¬ d.toNat = j := by omega
      rw [if_neg e]
      by_cases hi : idxE wr (j : Int) < wr.length
      · rw [if_pos ((putE_in wr d y j).2 (.inr hi)), if_pos hi, putE_other hd d y j hj hi]
      · rw [if_neg (fun f => ((putE_in wr d y j).1 f).elim hj hi), if_neg hi]
  · rw [List.getElem?_eq_none (by rw [nowE_len]; omega), List.getElem?_eq_none (by rw [List.length_set, nowE_len]; omega)]
theorem hasE_put (n : Nat) (wr : List (Int × Int)) (d y : Int) (h0 : 0 ≤ d) : hasE n (putE wr d y) = (hasE n wr).set d.toNat true := by
  apply List.ext_getElem?
  intro j
  by_cases h : j < n
  · rw [hasE_at n _ j h, List.getElem?_set, hasE_at n _ j h, hasE_len]
    by_cases hj : (j : Int) = d
    · have e : d.toNat = j := by omega
      have := (putE_in wr d y j).2 (.inl hj)
      rw [if_pos e, if_pos (by omega)]
      simp [this]
    · have e : ¬ d.toNat = j := by omega
      rw [if_neg e]
      have : idxE (putE wr d y) (j : Int) < (putE wr d y).length ↔ idxE wr (j : Int) < wr.length := ⟨fun f => ((putE_in wr d y j).1 f).resolve_left hj, fun f => (putE_in wr d y j).2 (.inr f)⟩
      simp [this]
  · rw [List.getElem?_eq_none (by rw [hasE_len]; omega), List.getElem?_eq_none (by rw [List.length_set, hasE_len]; omega)]

/-- A log is stored, entry by entry. -/
theorem nowE_take (ws : List Int) {wr : List (Int × Int)} (hd : (wr.map Prod.fst).Nodup) {k : Nat} {d y : Int} (hk : wr[k]? = some (d, y)) (h0 : 0 ≤ d) (h1 : d < (ws.length : Int)) : C.putAt (nowE ws (wr.take k)) d y = nowE ws (wr.take (k + 1)) := by
  have ht := take_succ_at hk
  have hdt : ((wr.take (k + 1)).map Prod.fst).Nodup := by
    rw [List.map_take]
    exact hd.sublist (List.take_sublist _ _)
  have hno : ¬ idxE (wr.take k) d < (wr.take k).length := fun h => by
    have hm := idxE_mem.1 h
    rw [ht, List.map_append, List.nodup_append] at hdt
    exact hdt.2.2 d hm d (by simp) rfl
  have hp : putE (wr.take k) d y = wr.take (k + 1) := by rw [ht]; exact if_neg hno
  have hdk : ((wr.take k).map Prod.fst).Nodup := by
    rw [List.map_take]
    exact hd.sublist (List.take_sublist _ _)
  rw [← hp, nowE_put ws hdk d y h0]
  exact if_pos (by rw [nowE_len]; exact h1)
end Go.Proofs.YtmhinalgjfiliaaDoor
