/-
  The three places of the law CellsPlays, each with a row of the program's and one of the document's alike, or none. No statement of the seat is proved here.
-/
import Derived.Test.YtmffkcbdgpaieaaPlayK
namespace Go.Proofs.Ytmffkcbdgpaieaa
open Go.RowKit

/-- Three places in two arrays (blocks bt, br), their rows apart, all of them from block B on. -/
structure Three (B bt br : Nat) (W : World) (P Q : Nat → Option Addr) (F : Nat → Nat → Prop) : Prop where
  t : W.heap[bt]? = some (.cells #[.pointer (P 0), .pointer (P 1), .pointer (P 2)] 37 (0, 0))
  r : W.heap[br]? = some (.cells #[.pointer (Q 0), .pointer (Q 1), .pointer (Q 2)] 38 (0, 0))
  both : ∀ i, i < 3 → Both W (P i) (Q i) (F i)
  apart : ∀ i j, i < 3 → j < 3 → i ≠ j → ∀ k, F i k → ¬ F j k
  low : ∀ i, i < 3 → ∀ k, F i k → B ≤ k ∧ k < W.heap.size ∧ k ≠ bt ∧ k ≠ br
  hbt : B ≤ bt
  hbr : B ≤ br
  ne : bt ≠ br

section
variable {B bt br : Nat} {W W' : World} {P Q : Nat → Option Addr} {F : Nat → Nat → Prop}

theorem arr_get (A : Nat → Option Addr) (i : Nat) (h : i < 3) : #[Value.pointer (A 0), .pointer (A 1), .pointer (A 2)][i]? = some (.pointer (A i)) := by
  match i, h with
  | 0, _ => rfl
  | 1, _ => rfl
  | 2, _ => rfl
/-- One place anew. -/
def upd (A : Nat → Option Addr) (i : Nat) (p : Option Addr) : Nat → Option Addr := fun j => if j = i then p else A j
theorem arr_set (A : Nat → Option Addr) (i : Nat) (h : i < 3) (p : Option Addr) : #[Value.pointer (A 0), .pointer (A 1), .pointer (A 2)].setIfInBounds i (.pointer p) = #[Value.pointer (upd A i p 0), .pointer (upd A i p 1), .pointer (upd A i p 2)] := by
  match i, h with
  | 0, _ => simp [upd]
  | 1, _ => simp [upd]
  | 2, _ => simp [upd]

theorem Three.cellT (h : Three B bt br W P Q F) (i : Nat) (hi : i < 3) : W.cell? ⟨bt, i, none⟩ = some (.pointer (P i)) := by rw [cell_of_block h.t, arr_get P i hi]
theorem Three.cellR (h : Three B bt br W P Q F) (i : Nat) (hi : i < 3) : W.cell? ⟨br, i, none⟩ = some (.pointer (Q i)) := by rw [cell_of_block h.r, arr_get Q i hi]
theorem Three.frozenT (h : Three B bt br W P Q F) (i : Nat) : W.frozen? ⟨bt, i, none⟩ = false := frozen_of_block h.t i
theorem Three.frozenR (h : Three B bt br W P Q F) (i : Nat) : W.frozen? ⟨br, i, none⟩ = false := frozen_of_block h.r i
theorem Three.ltT (h : Three B bt br W P Q F) : bt < W.heap.size := lt_of_block h.t
theorem Three.ltR (h : Three B bt br W P Q F) : br < W.heap.size := lt_of_block h.r

theorem Three.kept (h : Three B bt br W P Q F) (i : Nat) (hi : i < 3) (k : Keeps (F i) W W') (hB : Both W' (P i) (Q i) (F i)) : Three B bt br W' P Q F where
  t := k.blk h.t (fun f => (h.low i hi bt f).2.2.1 rfl)
  r := k.blk h.r (fun f => (h.low i hi br f).2.2.2 rfl)
  both := fun j hj => by
    by_cases e : j = i
    · exact e ▸ hB
    · exact (h.both j hj).kept k (fun x hx => h.apart j i hj hi e x hx)
  apart := h.apart
  low := fun j hj x hx => by
    have h1 := h.low j hj x hx
    have h2 := k.size
    exact ⟨h1.1, by omega, h1.2.2⟩
  hbt := h.hbt
  hbr := h.hbr
  ne := h.ne
theorem Three.same (h : Three B bt br W P Q F) (k : Keeps (fun _ => False) W W') : Three B bt br W' P Q F where
  t := k.blk h.t (fun f => f)
  r := k.blk h.r (fun f => f)
  both := fun j hj => (h.both j hj).kept k (fun _ _ f => f)
  apart := h.apart
  low := fun j hj x hx => by
    have h1 := h.low j hj x hx
    have h2 := k.size
    exact ⟨h1.1, by omega, h1.2.2⟩
  hbt := h.hbt
  hbr := h.hbr
  ne := h.ne

/-- One place's rows are new ones. -/
theorem Three.set (h : Three B bt br W P Q F) (i : Nat) (hi : i < 3) (p q : Option Addr) (G : Nat → Prop) (k : Keeps (fun x => x = bt ∨ x = br) W W') (hBW : B ≤ W.heap.size)
    (ht : W'.heap[bt]? = some (.cells (#[Value.pointer (P 0), .pointer (P 1), .pointer (P 2)].setIfInBounds i (.pointer p)) 37 (0, 0)))
    (hr : W'.heap[br]? = some (.cells (#[Value.pointer (Q 0), .pointer (Q 1), .pointer (Q 2)].setIfInBounds i (.pointer q)) 38 (0, 0)))
    (hB : Both W' p q G) (hG : ∀ x, G x → W.heap.size ≤ x ∧ x < W'.heap.size) : Three B bt br W' (upd P i p) (upd Q i q) (fun j => if j = i then G else F j) where
  t := by rw [ht, arr_set P i hi]
  r := by rw [hr, arr_set Q i hi]
  both := fun j hj => by
    unfold upd
    by_cases e : j = i
    · simp only [e, if_true]
      exact hB
    · simp only [e, if_false]
      exact (h.both j hj).kept k (fun x hx => by have := h.low j hj x hx; omega)
  apart := fun a b ha hb hab x hx hy => by
    by_cases e : a = i
    · by_cases e' : b = i
      · omega
      · simp only [e, e', if_true, if_false] at hx hy
        have h1 := hG x hx
        have h2 := h.low b hb x hy
        omega
    · by_cases e' : b = i
      · simp only [e, e', if_true, if_false] at hx hy
        have h1 := hG x hy
        have h2 := h.low a ha x hx
        omega
      · simp only [e, e', if_false] at hx hy
        exact h.apart a b ha hb hab x hx hy
  low := fun j hj x hx => by
    have hz := k.size
    have lt := h.ltT
    have lr := h.ltR
    by_cases e : j = i
    · simp only [e, if_true] at hx
      have h1 := hG x hx
      exact ⟨by omega, h1.2, by omega, by omega⟩
    · simp only [e, if_false] at hx
      have h1 := h.low j hj x hx
      exact ⟨h1.1, by omega, h1.2.2⟩
  hbt := h.hbt
  hbr := h.hbr
  ne := h.ne
end

/-- A step of the script, with its words. -/
structure StepD where
  kd : Int
  who : Int
  to : Int
  lv : Int
  ad : Int
  wd : Int
  od : Int
  bh : Int
  sp : Option Addr
  l : Nat
  sc : Nat
  vs : List Int

/-- What the law needs of a step's fields. -/
structure StepD.Good (W : World) (s : StepD) : Prop where
  ad0 : 0 ≤ s.ad
  ad1 : s.ad ≤ 18446744073709551615
  wd0 : 0 ≤ s.wd
  wd1 : s.wd ≤ 18446744073709551615
  len : s.vs.length = s.l
  reads : Reads W s.sp s.vs
  nil : s.sp = none → s.sc = 0
  bytes : s.l * 8 ≤ 140737488351232
  wf : Wf s.vs

/-- The script as it stands in memory. -/
structure Steps (W : World) (sq : Option Addr) (ss : List StepD) : Prop where
  good : ∀ s ∈ ss, s.Good W
  cells : ∀ (i : Nat) (s : StepD), ss[i]? = some s → ∃ b o, sq = some ⟨b, o, none⟩ ∧ W.cell? ⟨b, o + i * 9, none⟩ = some (.int .i64 s.kd) ∧ W.cell? ⟨b, o + i * 9 + 1, none⟩ = some (.int .i64 s.who) ∧ W.cell? ⟨b, o + i * 9 + 2, none⟩ = some (.int .i64 s.to) ∧ W.cell? ⟨b, o + i * 9 + 3, none⟩ = some (.int .i64 s.lv) ∧ W.cell? ⟨b, o + i * 9 + 4, none⟩ = some (.int .u64 s.ad) ∧ W.cell? ⟨b, o + i * 9 + 5, none⟩ = some (.int .u64 s.wd) ∧ W.cell? ⟨b, o + i * 9 + 6, none⟩ = some (.int .u64 s.od) ∧ W.cell? ⟨b, o + i * 9 + 7, none⟩ = some (.int .u64 s.bh) ∧ W.cell? ⟨b, o + i * 9 + 8, none⟩ = some (.slice s.sp s.l s.sc)

end Go.Proofs.Ytmffkcbdgpaieaa
