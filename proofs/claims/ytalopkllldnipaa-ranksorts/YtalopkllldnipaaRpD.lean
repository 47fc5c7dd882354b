
/- Rows of entries; the document's Push (layer 24). No statement of the seat is proved here. -/
import Derived.Test.YtalopkllldnipaaRpAM
import Derived.Test.YtalopkllldnipaaRlF
import Derived.Test.YtalopkllldnipaaASeg
namespace Go.Proofs.Ytalopkllldnipaa
open Go.RowKit

def eC (p : Int × Int) : List Value := [.int .u64 p.1, .int .u64 p.2]
def oe (l : List (Int × Int)) (i : Nat) : Int × Int := l[i]?.getD (0, 0)
theorem info_entry : (Try.prog.info? 82).map (fun i => (i.zero, i.size, i.bytes)) = some (some (.agg #[.int .u64 0, .int .u64 0]), 2, 16) := by kernel_rfl
/-- A row of entries that can be read. -/
def LiesE (w : World) (v : Value) (l : List (Int × Int)) : Prop := ∃ a c, v = .slice a l.length c ∧ l.length ≤ c ∧ ∀ i, i < l.length → ∃ g off, a = some ⟨g, off, none⟩ ∧ w.cell? ⟨g, off + i * 2, none⟩ = some (.int .u64 (oe l i).1) ∧ w.cell? ⟨g, off + i * 2 + 1, none⟩ = some (.int .u64 (oe l i).2)
/-- One of the call's own. -/
def Wn (w : World) (base : Nat) (v : Value) (l : List (Int × Int)) : Prop := w.ownsRow base 82 2 v l.length (l.flatMap eC)
theorem Wn.nil (w : World) (base : Nat) : Wn w base (.slice none 0 0) [] := ⟨rfl, .inl ⟨rfl, rfl⟩⟩
theorem Wn.keeps {w w' : World} {base : Nat} {v : Value} {l : List (Int × Int)} {S : Nat → Prop} (h : Wn w base v l) (k : Keeps S w w') (hs : ∀ g, v.ownBlock = some g → ¬ S g) : Wn w' base v l := own_keeps h k hs
theorem eC_get (l : List (Int × Int)) : ∀ (i : Nat), i < l.length → (l.flatMap eC)[i * 2]? = some (.int .u64 (oe l i).1) ∧ (l.flatMap eC)[i * 2 + 1]? = some (.int .u64 (oe l i).2) := by
  induction l with
  | nil => intro i hi; simp at hi
  | cons p l ih =>
    intro i hi
    cases i with
    | zero => exact ⟨rfl, rfl⟩
    | succ i =>
      have q := ih i (by simpa using hi)
      rw [show (i + 1) * 2 = i * 2 + 2 by omega]
      exact ⟨q.1, q.2⟩
theorem eC_len (l : List (Int × Int)) : (l.flatMap eC).length = l.length * 2 := by
  induction l with
  | nil => rfl
  | cons p l ih =>
    rw [List.flatMap_cons, List.length_append, ih]
    simp [eC]
    omega
theorem Wn.lies {w : World} {base : Nat} {v : Value} {l : List (Int × Int)} (h : Wn w base v l) : LiesE w v l := by
  rcases id h.2 with ⟨h1, h2⟩ | ⟨g, cap, cur, rfl, h1, h2, h3, _⟩
  · have e : l = [] := List.eq_nil_of_length_eq_zero h2
    subst e
    exact ⟨none, 0, h1, Nat.le_refl _, fun i hi => by simp at hi⟩
  · refine ⟨_, cap, rfl, h3, fun i hi => ⟨g, 0, rfl, ?_, ?_⟩⟩
    · have q := World.ownsRow.cellAt h (i * 2) (by omega)
      rw [Nat.zero_add, q]
      exact (eC_get l i hi).1
    · have q := World.ownsRow.cellAt h (i * 2 + 1) (by omega)
      rw [Nat.zero_add, q]
      exact (eC_get l i hi).2
theorem LiesE.keeps {w w' : World} {v : Value} {l : List (Int × Int)} (h : LiesE w v l) (k : Keeps (fun _ => False) w w') : LiesE w' v l := by
  obtain ⟨a, c, h1, h2, h3⟩ := h
  refine ⟨a, c, h1, h2, fun i hi => ?_⟩
  obtain ⟨g, off, rfl, c0, c1⟩ := h3 i hi
  have hb := k.block g (World.block_lt_of_cell? _ _ c0) (fun f => f)
  exact ⟨g, off, rfl, (World.cell?_of_block hb).trans c0, (World.cell?_of_block hb).trans c1⟩
set_option maxRecDepth 100000 in
set_option maxHeartbeats 1000000 in
/-- append of a row that can be read to one of the call's own. -/
theorem app_ents (w : World) (base : Nat) (v : Value) (l : List (Int × Int)) (hown : Wn w base v l) (a : Option Addr) (m c : Nat) (ys : List (Int × Int)) (hm : ys.length = m) (hr : ∀ i, i < m → ∃ g off, a = some ⟨g, off, none⟩ ∧ w.cell? ⟨g, off + i * 2, none⟩ = some (.int .u64 (oe ys i).1) ∧ w.cell? ⟨g, off + i * 2 + 1, none⟩ = some (.int .u64 (oe ys i).2)) (hb : l.length + m ≤ 4000000000) (hbase : base ≤ w.heap.size) :
    ∃ v' w', (Builtin.append_ #[30, 30] 30 #[v, .slice a m c]).run Try.prog w = .ok v' w' ∧ Wn w' base v' (l ++ ys) ∧ w.grownBy w' v.ownBlock := by
  obtain ⟨i0, hi, hz0, hz1, hz2⟩ := info_parts info_entry
  have hg : w.grownBy w v.ownBlock := ⟨rfl, rfl, rfl, Nat.le_refl _, fun _ _ _ => rfl⟩
  cases a with
  | none =>
    have h0 : m = 0 := by
      rcases Nat.eq_zero_or_pos m with h | h
      · exact h
      · obtain ⟨g, off, ha, _⟩ := hr 0 h
        cases ha
    subst h0
    obtain rfl : ys = [] := List.eq_nil_of_length_eq_zero hm
    have hsrc : Src Try.prog i0.size 30 (.slice none 0 c) 0 [] w := Src.ofNil w (e' := 82) Try.underlying30 c
    rcases id hown.2 with ⟨rfl, h0⟩ | ⟨g, cap, cur, rfl, h1, h2, h3, h4, h5, h6⟩
    · exact ⟨_, _, run_append_nothing w 30 30 30 82 i0 Try.underlying30 hi none 0 0 (Nat.le_refl _) _ hsrc, by simpa using hown, hg⟩
    · exact ⟨_, _, run_append_nothing w 30 30 30 82 i0 Try.underlying30 hi (some ⟨g, 0, none⟩) l.length cap h3 _ hsrc, by simpa using hown, hg⟩
  | some a =>
    obtain ⟨v', w', h1, h2, h3, _⟩ := run_append_own (P := Try.prog) w base 30 30 82 i0 (.agg #[.int .u64 0, .int .u64 0]) 2 16 Try.underlying30 hi hz0 hz1 hz2 rfl (by decide) v l.length (l.flatMap eC) hown a m c (ys.flatMap eC) (by rw [eC_len, hm])
      (fun j u hj => by
        have hj' : j < m * 2 := by
          have := (List.getElem?_eq_some_iff.1 hj).1
          rw [eC_len, hm] at this
          exact this
        obtain ⟨i, hi2⟩ : ∃ i, j = i * 2 ∨ j = i * 2 + 1 := ⟨j / 2, by omega⟩
        obtain ⟨g, off, ha', c0, c1⟩ := hr i (by omega)
        injection ha' with ha'
        subst ha'
        have q := eC_get ys i (by omega)
        rw [addr_add, ← hj]
        rcases hi2 with rfl | rfl
        · rw [c0, q.1]
        · rw [← Nat.add_assoc, c1, q.2])
      (fun u hu => by
        simp [eC] at hu
        obtain ⟨x, y, _, rfl | rfl⟩ := hu <;> rfl) (by simp only [maxLen]; omega) (by omega) hbase
    refine ⟨v', w', h1, ?_, h3⟩
    unfold Wn
    rw [List.flatMap_append, List.length_append, hm]
    exact h2
theorem insE_at (x : Int × Int) : ∀ (l : List (Int × Int)) (k : Nat), k ≤ l.length → (∀ j, j < k → ¬ befE x (oe l j)) → (k = l.length ∨ befE x (oe l k)) → insE x l = l.take k ++ x :: l.drop k
  | [], k, hk, _, _ => by
    obtain rfl : k = 0 := by simpa using hk
    rfl
  | y :: l, 0, _, _, h => by
    have hb : befE x y := by
      rcases h with h | h
      · simp at h
      · exact h
    unfold insE
    rw [if_pos hb]
    rfl
  | y :: l, k + 1, hk, h1, h2 => by
    have hb : ¬ befE x y := h1 0 (by omega)
    unfold insE
    rw [if_neg hb, insE_at x l k (by simpa using hk) (fun j hj => h1 (j + 1) (by omega)) (by
      rcases h2 with h | h
      · left; simpa using h
      · right; exact h)]
    rfl
end Go.Proofs.Ytalopkllldnipaa
