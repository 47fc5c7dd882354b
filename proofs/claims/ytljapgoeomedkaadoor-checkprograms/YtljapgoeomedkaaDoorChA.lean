
/- Pure: followers, ways, what is wrong with a program. No statement of the seat is proved here. -/
import Derived.Test.YtljapgoeomedkaaDoorCdF
namespace Go.Proofs.YtljapgoeomedkaaDoor
open Go.RowKit Go.Shelf

/-- A target as a place, and the followers of an instruction at a place. -/
def tgtN (i : I5) : Nat := min i.n.toNat 2147483647
def folL (i : I5) (a : Nat) : List Nat :=
  if i.op = 17 then [] else if i.op = 8 ∨ i.op = 16 then [tgtN i]
  else if i.op = 9 then (if tgtN i < a + 1 then [tgtN i, a + 1] else if a + 1 < tgtN i then [a + 1, tgtN i] else [a + 1])
  else [a + 1]
/-- On which side a way is behind an operation (true: inside). -/
def sideB (op : Int) (s : Bool) : Bool := if op = 12 then true else if op = 15 ∨ op = 16 then false else s
/-- Ways lead to a place on a side. -/
inductive Reach (p : List I5) : Nat → Bool → Prop
  | start : Reach p 0 false
  | step {a : Nat} {s : Bool} {b : Nat} {i : I5} : Reach p a s → p[a]? = some i → b ∈ folL i a → b < p.length → Reach p b (sideB i.op s)

def at5 (p : List I5) (k : Nat) : I5 := (p[k]?).getD ⟨0, 0, 0, 0, 0⟩
def formF (p : List I5) (k : Nat) : Bool := !formedB (at5 p k)
def tgtF (p : List I5) (k : Nat) : Bool := tgtB (at5 p k).op && decide ((p.length : Int) ≤ (at5 p k).n)
def behF (R : Nat → Bool → Bool) (p : List I5) (k : Nat) : Bool := (R k false || R k true) && (folL (at5 p k) k).any fun b => decide (p.length ≤ b)
def modF (R : Nat → Bool → Bool) (p : List I5) (k : Nat) : Bool := (R k false && R k true) || (R k false && !outB (at5 p k).op) || (R k true && !insB (at5 p k).op)
def firstK (n : Nat) (f : Nat → Bool) : Option Nat := (List.range n).find? f
/-- What is wrong with a program, if these are the ways. -/
def verdW (R : Nat → Bool → Bool) (p : List I5) : Int × Int :=
  if p.length < 1 ∨ 256 < p.length then (-1, 200) else
  match firstK p.length (formF p) with
  | some k => (k, 201)
  | none => match firstK p.length (tgtF p) with
    | some k => (k, 202)
    | none => match firstK p.length (behF R p) with
      | some k => (k, 203)
      | none => match firstK p.length (modF R p) with
        | some k => (k, 204)
        | none => (-1, 0)
open Classical in
noncomputable def reachB (p : List I5) (a : Nat) (s : Bool) : Bool := decide (Reach p a s)
noncomputable def verd (p : List I5) : Int × Int := verdW (reachB p) p
theorem reachB_iff {p : List I5} {a : Nat} {s : Bool} : reachB p a s = true ↔ Reach p a s := by unfold reachB; simp
theorem reachB_no {p : List I5} {a : Nat} {s : Bool} : reachB p a s = false ↔ ¬ Reach p a s := by rw [← reachB_iff]; simp

theorem reach_lt {p : List I5} (hp : 0 < p.length) {a : Nat} {s : Bool} (h : Reach p a s) : a < p.length := by
  cases h with
  | start => exact hp
  | step _ _ _ h => exact h
theorem reach_in {p : List I5} {L : List (Nat × Bool)} (h0 : (0, false) ∈ L) (hc : ∀ x ∈ L, ∀ i, p[x.1]? = some i → ∀ b ∈ folL i x.1, b < p.length → (b, sideB i.op x.2) ∈ L) {a : Nat} {s : Bool} (h : Reach p a s) : (a, s) ∈ L := by
  induction h with
  | start => exact h0
  | step _ hi hb hlt ih => exact hc _ ih _ hi _ hb hlt
theorem reachB_eq {p : List I5} {L : List (Nat × Bool)} (h0 : (0, false) ∈ L) (hc : ∀ x ∈ L, ∀ i, p[x.1]? = some i → ∀ b ∈ folL i x.1, b < p.length → (b, sideB i.op x.2) ∈ L) (hr : ∀ x ∈ L, Reach p x.1 x.2) : reachB p = fun a s => decide ((a, s) ∈ L) := by
  funext a s
  rw [Bool.eq_iff_iff, reachB_iff, decide_eq_true_iff]
  exact ⟨reach_in h0 hc, fun h => hr _ h⟩

theorem firstK_none {n : Nat} {f : Nat → Bool} : firstK n f = none ↔ ∀ k, k < n → f k = false := by
  unfold firstK; rw [List.find?_eq_none]; simp
theorem firstK_some {n : Nat} {f : Nat → Bool} {k : Nat} : firstK n f = some k ↔ k < n ∧ f k = true ∧ ∀ j, j < k → f j = false := by
  unfold firstK
  rw [List.find?_range_eq_some]
  simp only [List.mem_range, Bool.not_eq_true']
  constructor
  · rintro ⟨h1, h2, h3⟩; exact ⟨h2, h1, h3⟩
  · rintro ⟨h1, h2, h3⟩; exact ⟨h2, h1, h3⟩
end Go.Proofs.YtljapgoeomedkaaDoor
