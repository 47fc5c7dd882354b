/-
  Plain facts on lists of words: stores and adds one behind the other, in the other order, and stores of what differs. No statement of the seat is proved here.
-/
import Derived.Test.YtmffkcbdgpaieaaSame
import Derived.Test.YtmffkcbdgpaieaaSum
namespace Go.Proofs.Ytmffkcbdgpaieaa
open Go.RowKit

/-- Stores, one behind the other. -/
def putAll (ws : List Int) (cs : List (Int × Int)) : List Int := cs.foldl (fun s x => putAt s x.1 x.2) ws
/-- An add. -/
def addAt (ws : List Int) (a v : Int) : List Int := putAt ws a (IntKind.u64.wrap (wordAt ws a + v))
/-- Adds, one behind the other. -/
def addAll (ws : List Int) (cs : List (Int × Int)) : List Int := cs.foldl (fun s x => addAt s x.1 x.2) ws

theorem take_step {α : Type} (cs : List α) (d : α) (k : Nat) (h : k < cs.length) : cs.take (k + 1) = cs.take k ++ [cs[k]?.getD d] := by
  rw [List.take_succ_eq_append_getElem h, List.getElem?_eq_getElem h]
  rfl
theorem putAll_step (ws : List Int) (cs : List (Int × Int)) (k : Nat) (h : k < cs.length) : putAll ws (cs.take (k + 1)) = putAt (putAll ws (cs.take k)) (cs[k]?.getD (0, 0)).1 (cs[k]?.getD (0, 0)).2 := by
  rw [take_step cs (0, 0) k h, putAll, List.foldl_append]
  rfl
theorem addAll_step (ws : List Int) (cs : List (Int × Int)) (k : Nat) (h : k < cs.length) : addAll ws (cs.take (k + 1)) = addAt (addAll ws (cs.take k)) (cs[k]?.getD (0, 0)).1 (cs[k]?.getD (0, 0)).2 := by
  rw [take_step cs (0, 0) k h, addAll, List.foldl_append]
  rfl
theorem putAll_len (cs : List (Int × Int)) : ∀ ws, (putAll ws cs).length = ws.length := by
  induction cs with
  | nil => intro ws; rfl
  | cons x cs ih => intro ws; show (putAll (putAt ws x.1 x.2) cs).length = _; rw [ih, putAt_len]
theorem addAt_len (ws : List Int) (a v : Int) : (addAt ws a v).length = ws.length := putAt_len _ _ _
theorem addAll_len (cs : List (Int × Int)) : ∀ ws, (addAll ws cs).length = ws.length := by
  induction cs with
  | nil => intro ws; rfl
  | cons x cs ih => intro ws; show (addAll (addAt ws x.1 x.2) cs).length = _; rw [ih, addAt_len]

theorem Wf.put {ws : List Int} (h : Wf ws) (a v : Int) (h0 : 0 ≤ v) (h1 : v ≤ 18446744073709551615) : Wf (putAt ws a v) := by
  unfold putAt
  split
  · intro x hx
    rcases List.mem_or_eq_of_mem_set hx with hx | rfl
    · exact h x hx
    · exact ⟨h0, h1⟩
  · exact h
theorem Wf.putAll {cs : List (Int × Int)} : ∀ {ws : List Int}, Wf ws → (∀ x ∈ cs, 0 ≤ x.2 ∧ x.2 ≤ 18446744073709551615) → Wf (putAll ws cs) := by
  induction cs with
  | nil => intro ws h _; exact h
  | cons x cs ih =>
    intro ws h hc
    have hx := hc x (by simp)
    exact ih (h.put x.1 x.2 hx.1 hx.2) (fun y hy => hc y (by simp [hy]))

theorem wrap_u64 (x : Int) : IntKind.u64.wrap x = x % 18446744073709551616 := by
  simp [IntKind.wrap, IntKind.signed, IntKind.bits]

theorem addAt_comm (ws : List Int) (a b u v : Int) (ha : 0 ≤ a) (hb : 0 ≤ b) : addAt (addAt ws a u) b v = addAt (addAt ws b v) a u := by
  by_cases h1 : a < (ws.length : Int)
  · by_cases h2 : b < (ws.length : Int)
    · have e1 : ∀ (x : List Int) (c y : Int), x.length = ws.length → c < (ws.length : Int) → addAt x c y = x.set c.toNat (IntKind.u64.wrap (x[c.toNat]?.getD 0 + y)) := fun x c y hx hc => by
        unfold addAt putAt wordAt
        rw [if_pos (by omega), if_pos (by omega)]
      rw [e1 ws a u rfl h1, e1 ws b v rfl h2, e1 _ b v (by simp) h2, e1 _ a u (by simp) h1]
      by_cases hab : a = b
      · subst hab
        have : a.toNat < ws.length := by omega
        rw [List.getElem?_set_self this, List.getElem?_set_self this, List.set_set, List.set_set]
        simp only [Option.getD_some, wrap_u64]
        congr 1
        omega
      · have hn : a.toNat ≠ b.toNat := by omega
        rw [List.getElem?_set_ne hn, List.getElem?_set_ne (Ne.symm hn), List.set_comm _ _ hn]
    · have e : ∀ x : List Int, x.length = ws.length → addAt x b v = x := fun x hx => by
        unfold addAt putAt
        rw [if_neg (by omega)]
      rw [e _ (by rw [addAt_len]), e _ rfl]
  · have e : ∀ x : List Int, x.length = ws.length → addAt x a u = x := fun x hx => by
      unfold addAt putAt
      rw [if_neg (by omega)]
    rw [e ws rfl, e _ (by rw [addAt_len])]

theorem addAll_snoc (ws : List Int) (cs : List (Int × Int)) (x : Int × Int) : addAll ws (cs ++ [x]) = addAt (addAll ws cs) x.1 x.2 := by
  unfold addAll
  rw [List.foldl_append]
  rfl
theorem addAll_cons_last (x : Int × Int) (hx : 0 ≤ x.1) : ∀ (cs : List (Int × Int)) (ws : List Int), (∀ y ∈ cs, 0 ≤ y.1) → addAll (addAt ws x.1 x.2) cs = addAt (addAll ws cs) x.1 x.2 := by
  intro cs
  induction cs with
  | nil => intro ws _; rfl
  | cons y cs ih =>
    intro ws hc
    show addAll (addAt (addAt ws x.1 x.2) y.1 y.2) cs = addAt (addAll (addAt ws y.1 y.2) cs) x.1 x.2
    rw [addAt_comm ws x.1 y.1 x.2 y.2 hx (hc y (by simp)), ih _ (fun z hz => hc z (by simp [hz]))]
theorem addAll_reverse : ∀ (cs : List (Int × Int)) (ws : List Int), (∀ y ∈ cs, 0 ≤ y.1) → addAll ws cs.reverse = addAll ws cs := by
  intro cs
  induction cs with
  | nil => intro ws _; rfl
  | cons x cs ih =>
    intro ws hc
    rw [List.reverse_cons, addAll_snoc, ih ws (fun y hy => hc y (by simp [hy]))]
    exact (addAll_cons_last x (hc x (by simp)) cs ws (fun y hy => hc y (by simp [hy]))).symm

/-- Addresses as numbers. -/
def asInts (l : List (Nat × Int)) : List (Int × Int) := l.map fun x => ((x.1 : Int), x.2)
theorem asInts_snoc (l : List (Nat × Int)) (x : Nat × Int) : asInts (l ++ [x]) = asInts l ++ [((x.1 : Int), x.2)] := by simp [asInts]

theorem putAll_snoc (ws : List Int) (cs : List (Int × Int)) (x : Int × Int) : putAll ws (cs ++ [x]) = putAt (putAll ws cs) x.1 x.2 := by
  unfold putAll
  rw [List.foldl_append]
  rfl
theorem dl_put (wa wb : List Int) (hl : wb.length = wa.length) : ∀ k, k ≤ wb.length → putAll wa (asInts (dl wa wb k)) = wb.take k ++ wa.drop k
  | 0, _ => by simp [dl, asInts, putAll]
  | k + 1, hk => by
    have ih := dl_put wa wb hl k (by omega)
    have h1 : wb.take (k + 1) = wb.take k ++ [wb[k]'(by omega)] := List.take_succ_eq_append_getElem (by omega)
    have h2 : wa.drop k = wa[k]'(by omega) :: wa.drop (k + 1) := List.drop_eq_getElem_cons (by omega)
    have g1 : wb[k]?.getD 0 = wb[k]'(by omega) := by rw [List.getElem?_eq_getElem (by omega)]; rfl
    have g2 : wa[k]?.getD 0 = wa[k]'(by omega) := by rw [List.getElem?_eq_getElem (by omega)]; rfl
    unfold dl
    split
    · rename_i he
      have he := eq_of_beq he
      rw [ih, h1, h2, List.append_assoc]
      rw [g1, g2] at he
      rw [he]
      rfl
    · rw [asInts_snoc, putAll_snoc, ih]
      unfold putAt
      rw [if_pos (by simp; omega)]
      simp only [Int.toNat_natCast]
      rw [h1, h2, g1, List.append_assoc, List.set_append_right _ _ (by simp; omega)]
      simp only [List.length_take]
      rw [show k - min k wb.length = 0 by omega]
      rfl
theorem dl_put_all (wa wb : List Int) (hl : wb.length = wa.length) : putAll wa (asInts (dl wa wb wb.length)) = wb := by
  rw [dl_put wa wb hl _ (Nat.le_refl _), List.take_length, hl, List.drop_length, List.append_nil]
theorem dl_addr (wa wb : List Int) : ∀ k, ∀ x ∈ dl wa wb k, x.1 < k
  | 0, x, h => by simp [dl] at h
  | k + 1, x, h => by
    unfold dl at h
    split at h
    · have := dl_addr wa wb k x h
      omega
    · rw [List.mem_append] at h
      rcases h with h | h
      · have := dl_addr wa wb k x h
        omega
      · simp at h
        subst h
        simp
theorem dl_empty {wa wb : List Int} (hl : wb.length = wa.length) : (dl wa wb wb.length = []) ↔ wa = wb := by
  constructor
  · intro h
    exact eq_of_gets hl (dl_nil h)
  · rintro rfl
    have : ∀ k, dl wa wa k = [] := fun k => by
      induction k with
      | zero => rfl
      | succ k ih => unfold dl; rw [if_pos (by simp)]; exact ih
    exact this _

end Go.Proofs.Ytmffkcbdgpaieaa
