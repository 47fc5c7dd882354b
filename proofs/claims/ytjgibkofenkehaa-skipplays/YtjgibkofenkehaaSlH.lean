
/- A list that was told, beside the tx and the tape (layer 22). No statement of the seat is proved here. -/
import Derived.Test.YtjgibkofenkehaaSlG
import Derived.Test.YtjgibkofenkehaaSlC
namespace Go.Proofs.Ytjgibkofenkehaa
open Go.RowKit

theorem eachL_out : ∀ (f : Nat) (out : List Int) (l : Lk) (e : Int) (n : Nat) (s : Wd), (eachL f out l e n s).1.1.length ≤ out.length + f
  | 0, out, l, e, n, s => by show out.length ≤ _; omega
  | f + 1, out, l, e, n, s => by
    unfold eachL
    split
    · obtain ⟨⟨⟨l', e'⟩, n', s'⟩, eq⟩ : ∃ r, s.fol n (uw (l.nd + 2)) = r := ⟨_, rfl⟩
      rw [eq]
      have ih := eachL_out f (out ++ [l.k]) l' e' n' s'
      rw [List.length_append, List.length_singleton] at ih
      show (eachL f (out ++ [l.k]) l' e' n' s').1.1.length ≤ _
      omega
    · show out.length ≤ _; omega
theorem keys_out (s : Wd) (at_ : Int) : (s.keys at_).1.1.length ≤ 70000 := by
  obtain ⟨⟨⟨l, e⟩, n, s1⟩, eq⟩ : ∃ r, s.fol 0 at_ = r := ⟨_, rfl⟩
  have q3 := eachL_out FU [] l e n s1
  have q4 : s.each at_ = eachL FU [] l e n s1 := by unfold Wd.each; rw [eq]
  obtain ⟨⟨⟨out, e'⟩, s2⟩, eq2⟩ : ∃ r, eachL FU [] l e n s1 = r := ⟨_, rfl⟩
  rw [eq2] at q3 q4
  have q5 : out.length ≤ 0 + FU := q3
  have q6 : FU = 65545 := rfl
  unfold Wd.keys
  rw [q4]
  dsimp only
  split
  · show (0 : Nat) ≤ _; omega
  · show out.length ≤ _; omega
theorem told_on {w X w1 w2 : World} {b1 g1 c1 b2 g2 c2 : Nat} {s s1 s2 : Wd} {v : Value} {L : List Int} (d : Du w b1 g1 c1 b2 g2 c2 X s s) (h1 : Hs 27 X b1 g1 c1 w1 s1) (hv : Wr w1 X.heap.size v L) (hno : ∀ k, v.ownBlock = some k → ¬ own w1 b1 g1 k) (h2 : Hs 30 w1 b2 g2 c2 w2 s2) :
    Wr w2 X.heap.size v L ∧ ∀ k, v.ownBlock = some k → w.heap.size ≤ k ∧ ¬ own w2 b1 g1 k ∧ ¬ own w2 b2 g2 k := by
  have d1 := d.tx h1
  have hk : Keeps (own X b1 g1) X w1 := h1.k.k.mono (fun i _ e => e.elim id (fun f => f.elim))
  have ho := own_kept d.r.ltb hk (fun i hi e => d.dj i e hi)
  have key : ∀ k, v.ownBlock = some k → ∃ o, w1.heap[k]? = some o ∧ L2 w2 b1 g1 b2 g2 k o := by
    intro k e
    obtain ⟨q1, q2⟩ := own_block hv e
    obtain ⟨o, e1⟩ : ∃ o, w1.heap[k]? = some o := ⟨_, Array.getElem?_eq_getElem q1⟩
    have l2 : L2 w1 b1 g1 b2 g2 k o := ⟨e1, hno k e, fun f => by have := d.r.lto ((ho k).1 f); omega⟩
    exact ⟨o, e1, l2.tp d1 h2⟩
  refine ⟨own_keep hv (fun k e => ?_), fun k e => ?_⟩
  · obtain ⟨o, e1, l2⟩ := key k e
    rw [e1]; exact l2.at_
  · obtain ⟨o, e1, l2⟩ := key k e
    have q := (own_block hv e).2
    exact ⟨Nat.le_trans d.k.size q, l2.n1, l2.n2⟩
end Go.Proofs.Ytjgibkofenkehaa
