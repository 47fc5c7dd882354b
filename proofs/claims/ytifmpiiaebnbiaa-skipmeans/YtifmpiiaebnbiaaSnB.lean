
/- Pure (layer 22): a skip list as it lies, and its search. No statement of the seat is proved here. -/
import Derived.Test.YtifmpiiaebnbiaaSnA
namespace Go.Proofs.Ytifmpiiaebnbiaa
open Go.RowKit

/-- A node: where, its word, its level. -/
structure Sn where
  a : Nat
  k : Int
  h : Nat
/-- The first node of a level, as a link. -/
def nxt (i : Nat) : List Sn → Int
  | [] => 0
  | q :: r => if i < q.h then (q.a : Int) + 1 else nxt i r
def nxk (i : Nat) : List Sn → Int
  | [] => 0
  | q :: r => if i < q.h then q.k else nxk i r
/-- Links as they lie. -/
def Lnk (W : List Int) (base hh : Nat) (R : List Sn) : Prop := ∀ i, i < hh → oat W (base + i) = nxt i R
def Ns (W : List Int) : List Sn → Prop
  | [] => True
  | q :: r => (oat W q.a = q.k ∧ oat W (q.a + 1) = (q.h : Int) ∧ 1 ≤ q.h ∧ q.h ≤ 8 ∧ q.a + 2 + q.h ≤ W.length) ∧ Lnk W (q.a + 2) q.h r ∧ Ns W r
/-- The cell of the last link of a level. -/
def cel (i base : Nat) : List Sn → Nat
  | [] => base + i
  | q :: r => if i < q.h then cel i (q.a + 2) r else cel i base r
theorem nxt_no {i : Nat} {q : Sn} {r : List Sn} (h : ¬ i < q.h) : nxt i (q :: r) = nxt i r := by rw [nxt, if_neg h]
theorem nxt_yes {i : Nat} {q : Sn} {r : List Sn} (h : i < q.h) : nxt i (q :: r) = (q.a : Int) + 1 := by rw [nxt, if_pos h]
theorem nxk_no {i : Nat} {q : Sn} {r : List Sn} (h : ¬ i < q.h) : nxk i (q :: r) = nxk i r := by rw [nxk, if_neg h]
theorem nxk_yes {i : Nat} {q : Sn} {r : List Sn} (h : i < q.h) : nxk i (q :: r) = q.k := by rw [nxk, if_pos h]
theorem cel_no {i base : Nat} {q : Sn} {r : List Sn} (h : ¬ i < q.h) : cel i base (q :: r) = cel i base r := by rw [cel, if_neg h]
theorem cel_yes {i base : Nat} {q : Sn} {r : List Sn} (h : i < q.h) : cel i base (q :: r) = cel i (q.a + 2) r := by rw [cel, if_pos h]
theorem nxt_zero {i : Nat} : ∀ {R : List Sn}, nxt i R = 0 ↔ ∀ q ∈ R, q.h ≤ i
  | [] => by simp [nxt]
  | q :: r => by
    unfold nxt
    by_cases h : i < q.h
    · rw [if_pos h]
      constructor
      · intro e; omega
      · intro e; have := e q (by simp); omega
    · rw [if_neg h, nxt_zero (R := r)]
      constructor
      · intro e x hx
        rcases List.mem_cons.1 hx with rfl | hx
        · omega
        · exact e x hx
      · intro e x hx; exact e x (by simp [hx])
theorem nxt_app {i : Nat} : ∀ {A B : List Sn}, (∀ q ∈ A, q.h ≤ i) → nxt i (A ++ B) = nxt i B
  | [], B, _ => rfl
  | q :: r, B, h => by
    show nxt i (q :: (r ++ B)) = _
    rw [nxt_no (by have := h q (by simp); omega)]
    exact nxt_app (A := r) (fun x hx => h x (by simp [hx]))
theorem nxk_app {i : Nat} : ∀ {A B : List Sn}, (∀ q ∈ A, q.h ≤ i) → nxk i (A ++ B) = nxk i B
  | [], B, _ => rfl
  | q :: r, B, h => by
    show nxk i (q :: (r ++ B)) = _
    rw [nxk_no (by have := h q (by simp); omega)]
    exact nxk_app (A := r) (fun x hx => h x (by simp [hx]))
theorem cel_app {i base : Nat} : ∀ {A B : List Sn}, (∀ q ∈ A, q.h ≤ i) → cel i base (A ++ B) = cel i base B
  | [], B, _ => rfl
  | q :: r, B, h => by
    show cel i base (q :: (r ++ B)) = _
    rw [cel_no (by have := h q (by simp); omega)]
    exact cel_app (A := r) (fun x hx => h x (by simp [hx]))
/-- The first node of a level, and what stands ahead of it. -/
theorem nxt_split {i : Nat} : ∀ {R : List Sn}, nxt i R ≠ 0 → ∃ B q C, R = B ++ q :: C ∧ (∀ x ∈ B, x.h ≤ i) ∧ i < q.h ∧ nxt i R = (q.a : Int) + 1 ∧ nxk i R = q.k
  | [], h => absurd rfl h
  | q :: r, h => by
    by_cases hq : i < q.h
    · exact ⟨[], q, r, rfl, by simp, hq, nxt_yes hq, nxk_yes hq⟩
    · have e : nxt i (q :: r) = nxt i r := nxt_no hq
      have e2 : nxk i (q :: r) = nxk i r := nxk_no hq
      rw [e] at h
      obtain ⟨B, x, C, h1, h2, h3, h4, h5⟩ := nxt_split h
      exact ⟨q :: B, x, C, by rw [h1]; rfl, fun y hy => by
        rcases List.mem_cons.1 hy with rfl | hy
        · omega
        · exact h2 y hy, h3, by rw [e]; exact h4, by rw [e2]; exact h5⟩
theorem Ns.tail {W : List Int} : ∀ {A B : List Sn}, Ns W (A ++ B) → Ns W B
  | [], _, h => h
  | _ :: r, _B, h => Ns.tail (A := r) h.2.2
theorem Ns.at_ {W : List Int} {B C : List Sn} {q : Sn} (h : Ns W (B ++ q :: C)) : (oat W q.a = q.k ∧ oat W (q.a + 1) = (q.h : Int) ∧ 1 ≤ q.h ∧ q.h ≤ 8 ∧ q.a + 2 + q.h ≤ W.length) ∧ Lnk W (q.a + 2) q.h C ∧ Ns W C := Ns.tail h
theorem nxk_zero {i : Nat} : ∀ {R : List Sn}, nxt i R = 0 → nxk i R = 0
  | [], _ => rfl
  | q :: r, h => by
    unfold nxt at h
    unfold nxk
    by_cases hq : i < q.h
    · rw [if_pos hq] at h; omega
    · rw [if_neg hq] at h ⊢; exact nxk_zero h
/-- A link is followed. -/
theorem fol_sl {s : Wd} {n i base : Nat} {hh : Nat} {R : List Sn} (hc : s.c = 0) (hi : i < hh) (hb : base + hh ≤ s.W.length) (hl : s.W.length ≤ 2000) (h : Lnk s.W base hh R) (hn : Ns s.W R) (h6 : n < 65536) :
    ∃ n' s', s.fol n ((base + i : Nat) : Int) = ((⟨((base + i : Nat) : Int), nxt i R, nxk i R⟩, 0), n', s') ∧ Seen s s' 2 ∧ n' ≤ n + 1 := by
  obtain ⟨s1, g1, v1⟩ := get_in (s := s) (a := ((base + i : Nat) : Int)) hc (by omega) (by omega)
  rw [show (((base + i : Nat) : Int)).toNat = base + i by omega, h i hi] at g1
  by_cases h0 : nxt i R = 0
  · refine ⟨n, s1, ?_, v1.more (by omega), by omega⟩
    unfold Wd.fol
    rw [g1, nxk_zero h0]
    simp [h0]
  · obtain ⟨B, q, C, e, hB, hq, e1, e2⟩ := nxt_split h0
    have hq2 := (Ns.at_ (e ▸ hn)).1
    have hw : uw ((q.a : Int) + 1 - 1) = q.a := by rw [show (q.a : Int) + 1 - 1 = q.a by omega]; exact uw_of (by omega) (by omega)
    obtain ⟨s2, g2, v2⟩ := get_in (s := s1) (a := (q.a : Int)) (v1.c.trans hc) (by omega) (by rw [v1.w]; omega)
    rw [v1.w, show ((q.a : Int)).toNat = q.a by omega, hq2.1] at g2
    refine ⟨n + 1, s2, ?_, v1.trans v2, Nat.le_refl _⟩
    unfold Wd.fol
    rw [g1]
    dsimp only
    rw [if_neg (by simp), if_neg h0, if_neg (by omega), e1, hw, g2]
    dsimp only
    rw [if_neg (by simp), e2]
end Go.Proofs.Ytifmpiiaebnbiaa
