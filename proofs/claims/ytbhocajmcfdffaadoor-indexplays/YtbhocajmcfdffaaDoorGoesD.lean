/-
  What the law's 'goes' holds between two rounds of its loop. No statement of the seat is proved here.
-/
import Derived.Test.YtbhocajmcfdffaaDoorAllYU
import Derived.Test.YtbhocajmcfdffaaDoorPlayA
namespace Go.Proofs.YtbhocajmcfdffaaDoor
open Go.RowKit Go.Shelf

theorem func_not_nilU (x : Addr) (w : World) : (binOp BinOp.eql 41 (.func (.func 61) #[] #[.pointer (some x)]) .nilFunc).run Tryd.prog w = .ok (.bool false) w := by kernel_rfl

theorem Reads.back {A B : World} {v : Value} {xs : List Int} (h : Reads B v xs) (hv : ∀ q, some q = v.ownBlock → q < A.heap.size) (hb : Below A.heap.size A B) : Reads A v xs := by
  obtain ⟨h1, a, c, rfl, hc⟩ := h
  refine ⟨h1, a, c, rfl, fun i hi => ?_⟩
  obtain ⟨g, off, rfl, hcell⟩ := hc i hi
  exact ⟨g, off, rfl, (hb.cell (p := ⟨g, off + i, none⟩) (hv g rfl)).symm.trans hcell⟩

/-- What All tells. -/
def tellsL (O : List Int) (uf : Int → Int) : List (Int × Int) := O.map fun k => (k, uf k)
theorem tellsL_len (O : List Int) (uf : Int → Int) : (tellsL O uf).length = O.length := by simp [tellsL]
theorem tellsL_get (O : List Int) (uf : Int → Int) {m : Nat} (hm : m < O.length) : (tellsL O uf)[m]? = some (oat O m, uf (oat O m)) := by simp [tellsL, oat, hm]
theorem tellsL_snoc {O : List Int} {uf : Int → Int} {pre : List (Int × Int)} {m : Nat} {k u : Int} (h : pre = (tellsL O uf).take pre.length) (hm : pre.length = m) (hlt : m < O.length) (hk : oat O m = k) (hu : uf k = u) : pre ++ [(k, u)] = (tellsL O uf).take (pre ++ [(k, u)]).length := by
  rw [List.length_append]
  show _ = (tellsL O uf).take (pre.length + 1)
  rw [List.take_add_one, ← h, hm, tellsL_get O uf hlt, hk, hu]
  rfl
theorem tellsL_last {O : List Int} {uf : Int → Int} {pre : List (Int × Int)} {x : Int × Int} {j : Nat} (hlt : pre.length < O.length) (h : pre ++ [x] = (tellsL O uf).take j) : x = (oat O pre.length, uf (oat O pre.length)) := by
  have h1 := congrArg (fun l => l[pre.length]?) h
  simp only [List.getElem?_append_right (Nat.le_refl _), Nat.sub_self] at h1
  have hl := congrArg List.length h
  rw [List.length_append, List.length_take] at hl
  simp at hl
  rw [List.getElem?_take_of_lt (by omega), tellsL_get O uf hlt] at h1
  simpa using h1

/-- The seven variables of 'goes' in their boxes: turn (k) and n (m) the two last. -/
structure Sev (N bt br : Nat) (leave k : Int) (v : Value) (btn bn : Nat) (m : Int) (X : World) : Prop where
  r : X.heap[N]? = some (.cells #[.pointer (some ⟨br, 0, none⟩)] 27 (0, 0))
  leave : X.heap[N + 1]? = some (.cells #[.int .i64 leave] 3 (0, 0))
  res : X.heap[N + 1 + 1]? = some (.cells #[.bool false] 4 (0, 0))
  t : X.heap[N + 1 + 1 + 1]? = some (.cells #[.pointer (some ⟨bt, 0, none⟩)] 23 (0, 0))
  want : X.heap[N + 1 + 1 + 1 + 1]? = some (.cells #[v] 37 (0, 0))
  turn : X.heap[btn]? = some (.cells #[.int .i64 k] 3 (0, 0))
  n : X.heap[bn]? = some (.cells #[.int .i64 m] 3 (0, 0))
theorem Sev.own {N bt br : Nat} {leave k : Int} {v : Value} {btn bn : Nat} {m : Int} {A B : World} {row : Option Nat} (h : Sev N bt br leave k v btn bn m A) (hg : A.grownBy B row) (hr : ∀ r, row = some r → ∃ o : Obj, A.heap[r]? = some o ∧ o.isCells = false) : Sev N bt br leave k v btn bn m B :=
  ⟨block_kept h.r hg hr, block_kept h.leave hg hr, block_kept h.res hg hr, block_kept h.t hg hr, block_kept h.want hg hr, block_kept h.turn hg hr, block_kept h.n hg hr⟩
theorem Sev.drewN {N bt br : Nat} {leave k : Int} {v : Value} {btn bn : Nat} {m : Int} {A : World} (h : Sev N bt br leave k v btn bn m A) (j : Nat) : Sev N bt br leave k v btn bn m (A.drewN j) := ⟨h.r, h.leave, h.res, h.t, h.want, h.turn, h.n⟩

/-- Between two rounds. -/
def GoesI (W : World) (bt br : Nat) (leave : Int) (O : List Int) (uf : Int → Int) (v : Value) (k : Int) (btn bn : Nat) (pre : List (Int × Int)) (X : World) : Prop :=
  (Sev W.heap.size bt br leave k v btn bn pre.length X ∧ pre = (tellsL O uf).take pre.length ∧ (k = 0 → 1 ≤ leave → (pre.length : Int) < leave)) ∧ Below W.heap.size W X
/-- A round has left. -/
def GoesX (W : World) (bt br : Nat) (leave : Int) (O : List Int) (uf : Int → Int) (v : Value) (k : Int) (btn bn : Nat) (c : Code) (pre : List (Int × Int)) (X : World) : Prop :=
  ((c = .exit 2 ∧ k = 0 ∧ (pre.length : Int) = leave ∧ Sev W.heap.size bt br leave k v btn bn pre.length X) ∨ (∀ j, pre ≠ (tellsL O uf).take j)) ∧ Below W.heap.size W X

theorem goesI_own (W : World) (bt br : Nat) (leave : Int) (O : List Int) (uf : Int → Int) (v : Value) (k : Int) (btn bn : Nat) {B : Nat} (hB : W.heap.size ≤ B) : OwnFrom B (GoesI W bt br leave O uf v k btn bn) :=
  OwnFrom.and (Go.Own.from (fun _ _ _ _ hs hg hr => ⟨hs.1.own hg hr, hs.2⟩) _) (ownFrom_below (Nat.le_refl _) hB)
theorem goesX_own (W : World) (bt br : Nat) (leave : Int) (O : List Int) (uf : Int → Int) (v : Value) (k : Int) (btn bn : Nat) {B : Nat} (hB : W.heap.size ≤ B) (c : Code) : OwnFrom B (GoesX W bt br leave O uf v k btn bn c) :=
  OwnFrom.and (Go.Own.from (fun _ _ _ _ hs hg hr => by
    rcases hs with ⟨h1, h2, h3, h4⟩ | h
    · exact .inl ⟨h1, h2, h3, h4.own hg hr⟩
    · exact .inr h) _) (ownFrom_below (Nat.le_refl _) hB)

theorem goes_step {W X : World} {bt br : Nat} {leave k : Int} {v : Value} {btn bn : Nat} {m : Int} (hS : Sev W.heap.size bt br leave k v btn bn m X) (hB : Below W.heap.size W X) (h1 : W.heap.size + 5 ≤ bn) (h2 : btn ≠ bn) {B : Nat} (hbn : bn < B) (nq : Nat) (u : Int) :
    KeepsFrom B X ((X.drewN nq).setCell ⟨bn, 0, none⟩ (.int .i64 u)) ∧ U.KeptNil X ((X.drewN nq).setCell ⟨bn, 0, none⟩ (.int .i64 u)) ∧ Sev W.heap.size bt br leave k v btn bn u ((X.drewN nq).setCell ⟨bn, 0, none⟩ (.int .i64 u)) ∧ Below W.heap.size W ((X.drewN nq).setCell ⟨bn, 0, none⟩ (.int .i64 u)) := by
  have ho : ∀ k, k ≠ bn → ((X.drewN nq).setCell ⟨bn, 0, none⟩ (.int .i64 u)).heap[k]? = X.heap[k]? := fun k hk => Below.heap_setCell (X.drewN nq) ⟨bn, 0, none⟩ _ k hk
  refine ⟨⟨by simp [World.drewN], fun j o hj hk _ => (ho j (by omega)).trans hk⟩, ⟨by simp [World.drewN], fun j c hj _ => (ho j (fun e => by subst e; have := hS.n; rw [hj] at this; cases this)).trans hj, fun j x hj => (ho j (fun e => by subst e; have := hS.n; rw [hj] at this; cases this)).trans hj⟩,
    ⟨(ho _ (by omega)).trans hS.r, (ho _ (by omega)).trans hS.leave, (ho _ (by omega)).trans hS.res, (ho _ (by omega)).trans hS.t, (ho _ (by omega)).trans hS.want, (ho _ h2).trans hS.turn, block_set (w := X.drewN nq) hS.n 0 _⟩, ?_⟩
  exact Below.setCell (w := X.drewN nq) ⟨hB.os, hB.tape, hB.output, hB.size, hB.block⟩ (p := ⟨bn, 0, none⟩) (by simp; omega) _
theorem goes_fail {W X : World} {r : Nat} (hB : Below W.heap.size W X) (h1 : W.heap.size ≤ r) {B : Nat} (hr : r < B) (nq : Nat) (v : Value) : KeepsFrom B X ((X.drewN nq).setCell ⟨r, 0, none⟩ v) ∧ Below W.heap.size W ((X.drewN nq).setCell ⟨r, 0, none⟩ v) :=
  ⟨⟨by simp [World.drewN], fun j o hj hk _ => (Below.heap_setCell (X.drewN nq) ⟨r, 0, none⟩ _ j (by simp; omega)).trans hk⟩, Below.setCell (w := X.drewN nq) ⟨hB.os, hB.tape, hB.output, hB.size, hB.block⟩ (p := ⟨r, 0, none⟩) h1 _⟩
end Go.Proofs.YtbhocajmcfdffaaDoor
