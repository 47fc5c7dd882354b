
/- What the law ListErrors keeps, and how its calls fail (layer 21). No statement of the seat is proved here. -/
import Derived.Test.YtmnbilhblkobdaaLeF
import Derived.Test.YtmnbilhblkobdaaLrOpen
import Derived.Test.YtmnbilhblkobdaaASeg
import Derived.Test.YtmnbilhblkobdaaLeL
namespace Go.Proofs.Ytmnbilhblkobdaa
open Go.RowKit

theorem WdAt.lies {w : World} {b g c : Nat} {s : Wd} (h : WdAt w b g c s) : Lies w (.slice (adr g c) s.W.length c) s.W := by
  refine ⟨_, _, rfl, fun i hi => ?_⟩
  have hc : c ≠ 0 := by have := h.cap; omega
  exact ⟨g, 0, adr_pos hc, by rw [Nat.zero_add]; exact h.wcell i hi⟩
theorem StepsAt.keeps {W W' : World} {a : Option Addr} {n : Nat} (h : StepsAt W a n) (k : Keeps (fun _ => False) W W') : StepsAt W' a n := fun j hj => by
  obtain ⟨g, off, rfl, kd, on, x, q1, c0, c1, c2⟩ := h j hj
  have hb := k.block g (World.block_lt_of_cell? _ _ c0) (fun f => f)
  exact ⟨g, off, rfl, kd, on, x, q1, (World.cell?_of_block hb).trans c0, (World.cell?_of_block hb).trans c1, (World.cell?_of_block hb).trans c2⟩
theorem call_len {s : Wd} (ok : s.Ok) (hce : s.c ≠ 0 ∨ s.f < 0) (r l kind key : Int) : (s.call r l kind key).1.L.length ≤ 1000000 := by
  unfold Wd.call
  repeat (split; · simp)
  split
  · obtain ⟨⟨⟨A, e0⟩, s0⟩, eq0⟩ : ∃ r, s.all l = r := ⟨_, rfl⟩
    have q3 := all_len ok hce eq0
    show (s.keys l).1.1.length ≤ 1000000
    unfold Wd.keys
    rw [eq0]
    split
    · simp
    · simpa using q3
  · split
    · simp
    · split
      · split <;> simp
      · simp
/-- A call, and how it fails at each of its accesses. -/
theorem fail_call {W : List Int} (ok : (∀ x ∈ W, isW x) ∧ W.length ≤ 1000000) (l kind key : Int) {R : Rp} {s1 : Wd} (heq : (⟨W, 0, 0, -1, 0⟩ : Wd).call 0 l kind key = (R, s1)) :
    ∃ T : Nat, T ≤ 5000012 ∧ Cn s1 T ∧ s1.W.length = W.length ∧ (∀ (n : Nat) (c : Int), c ≠ 0 → n < T → ∃ s2, (⟨W, 0, 0, n, c⟩ : Wd).call 0 l kind key = (⟨0, false, [], c⟩, s2) ∧ Cn s2 (n + 1)) ∧ (∀ c : Int, c ≠ 0 → ∃ s2, (⟨W, 0, 0, T, c⟩ : Wd).call 0 l kind key = (R, s2) ∧ s2.W = s1.W) := by
  obtain ⟨T, hT, q⟩ := ex_call (s := ⟨W, 0, 0, -1, 0⟩) (k := 0) ok (by show (-1 : Int) < 0; decide) ⟨Int.le_refl _, Int.le_refl _, rfl⟩ (by unfold TOP; omega) 0 l kind key
  refine ⟨T, hT, ?_, ?_, ?_, ?_⟩
  · have z := q.cn
    unfold callF at z
    rw [heq, Nat.zero_add] at z
    exact z
  · have z := q.len
    unfold callF at z
    rw [heq] at z
    exact z
  · intro n c hc hn
    have z := q.lo n c hc (Nat.zero_le _) (by omega)
    obtain ⟨⟨R2, s2⟩, eq2⟩ : ∃ r, (⟨W, 0, 0, n, c⟩ : Wd).call 0 l kind key = r := ⟨_, rfl⟩
    have e : (Wd.fa ⟨W, 0, 0, -1, 0⟩ n c) = ⟨W, 0, 0, n, c⟩ := rfl
    rw [e] at z
    unfold callF at z
    rw [eq2] at z
    obtain ⟨z1, z2⟩ := z
    unfold rt0 at z1
    simp only [Prod.mk.injEq] at z1
    obtain ⟨⟨a1, a2, a3⟩, a4⟩ := z1
    obtain ⟨x1, x2, x3, x4⟩ := R2
    simp only at a1 a2 a3 a4
    subst a1 a2 a3 a4
    exact ⟨s2, eq2, z2⟩
  · intro c hc
    have z := q.hi T c hc (by omega)
    obtain ⟨⟨R2, s2⟩, eq2⟩ : ∃ r, (⟨W, 0, 0, T, c⟩ : Wd).call 0 l kind key = r := ⟨_, rfl⟩
    have e : (Wd.fa ⟨W, 0, 0, -1, 0⟩ T c) = ⟨W, 0, 0, T, c⟩ := rfl
    rw [e] at z
    unfold callF at z
    rw [eq2, heq] at z
    simp only [Prod.mk.injEq] at z
    obtain ⟨⟨⟨a1, a2, a3⟩, a4⟩, a5⟩ := z
    obtain ⟨x1, x2, x3, x4⟩ := R2
    obtain ⟨y1, y2, y3, y4⟩ := R
    simp only at a1 a2 a3 a4
    subst a1 a2 a3 a4
    exact ⟨s2, eq2, by rw [a5]; rfl⟩
/-- So many accesses at most behind k calls. -/
def JB (k : Nat) : Nat := 100 + k * 5000012
theorem JB_succ (k : Nat) : JB (k + 1) = JB k + 5000012 := by unfold JB; rw [Nat.succ_mul, Nat.add_assoc]
theorem JB_next {j k : Nat} (h : j ≤ JB k) : j ≤ JB (k + 1) := by rw [JB_succ]; exact Nat.le_trans h (Nat.le_add_right _ _)
theorem JB_add {j k T : Nat} (h : j ≤ JB k) (hT : T ≤ 5000012) : j + T ≤ JB (k + 1) := by rw [JB_succ]; exact Nat.add_le_add h hT
theorem JB_top {j k : Nat} (h : j ≤ JB k) (hk : k ≤ 60) : j + 5000012 < TOP := by
  have h1 : JB k ≤ 300000820 := Nat.add_le_add_left (Nat.mul_le_mul_right 5000012 hk) 100
  unfold TOP
  exact Nat.lt_of_le_of_lt (Nat.add_le_add_right (Nat.le_trans h h1) 5000012) (by decide)
/-- What the law keeps: the step, the two addresses, the cells. -/
structure Er (w : World) (N b g c q8 : Nat) (kd on key : Int) (X : World) (s : Wd) : Prop where
  wd : WdAt X b g c s
  f : s.f = -1
  k : Keeps (fun _ => False) w X
  st : X.heap[w.heap.size]? = some (.cells #[.int .i64 kd, .int .i64 on, .int .u64 key] 33 (0, 0))
  ar : ArAt X q8 18 20
  lo : w.heap.size < b ∧ w.heap.size < g ∧ w.heap.size < q8 ∧ q8 ≠ b ∧ q8 ≠ g
  hi : b < N ∧ g < N ∧ q8 < N
  sz : N ≤ X.heap.size
structure Eg (N b g c q base : Nat) (R : Rp) (v : Value) (X : World) (s : Wd) : Prop where
  wd : WdAt X b g c s
  rp : RpAt X q R.w R.h v R.e
  row : Wr X base v R.L
  hi : b < N ∧ g < N ∧ q < N
  own : ∀ i, v.ownBlock = some i → i < N
  sz : N ≤ X.heap.size
section
variable {w X X' : World} {N b g c q8 : Nat} {kd on key : Int} {s s' : Wd} {S : Nat → Prop}
theorem Er.acc (h : Er w N b g c q8 kd on key X s) (k : Keeps (two b g) X X') (wd : WdAt X' b g c s') (hf : s'.f = -1) : Er w N b g c q8 kd on key X' s' := by
  have l := h.lo
  refine ⟨wd, hf, h.k.step k (fun i hi e => ?_), (k.block _ (lt_of_block h.st) ?_).trans h.st, h.ar.keeps k ?_, h.lo, h.hi, Nat.le_trans h.sz k.size⟩
  · rcases e with e | e <;> omega
  · rintro (e | e) <;> omega
  · rintro (e | e)
    · exact l.2.2.2.1 e
    · exact l.2.2.2.2 e
theorem Er.own (h : Er w N b g c q8 kd on key X s) (k : Keeps S X X') (hS : ∀ i, S i → N ≤ i) : Er w N b g c q8 kd on key X' s := by
  have l := h.lo
  have l2 := h.hi
  refine ⟨h.wd.kept k (fun e => by have := hS _ e; omega) (fun e => by have := hS _ e; omega), h.f, h.k.step k (fun i hi e => by have := hS _ e; omega), (k.block _ (lt_of_block h.st) (fun e => by have := hS _ e; omega)).trans h.st, h.ar.keeps k (fun e => by have := hS _ e; omega), h.lo, h.hi, Nat.le_trans h.sz k.size⟩
theorem Er.new (h : Er w N b g c q8 kd on key X s) (k : Keeps (fun _ => False) X X') : Er w N b g c q8 kd on key X' s := h.own k (fun _ f => f.elim)
theorem Er.s0 (h : Er w N b g c q8 kd on key X s) : X.cell? ⟨w.heap.size, 0, none⟩ = some (.int .i64 kd) := by rw [cell_of_block h.st]; rfl
theorem Er.s1 (h : Er w N b g c q8 kd on key X s) : X.cell? ⟨w.heap.size, 1, none⟩ = some (.int .i64 on) := by rw [cell_of_block h.st]; rfl
theorem Er.s2 (h : Er w N b g c q8 kd on key X s) : X.cell? ⟨w.heap.size, 2, none⟩ = some (.int .u64 key) := by rw [cell_of_block h.st]; rfl
end
/-- What holds of the world in the law's last sentence. -/
structure S26 (W : World) (q5 q8 q12 b1 b3 : Nat) (kd on key : Int) (R : Rp) (v v1 v3 : Value) : Prop where
  f0 : W.cell? ⟨q8, 0, none⟩ = some (.int .u64 18)
  f1 : W.cell? ⟨q5, 0, none⟩ = some (.int .i64 kd)
  f2 : W.cell? ⟨q5, 1, none⟩ = some (.int .i64 on)
  f3 : W.cell? ⟨q5, 2, none⟩ = some (.int .u64 key)
  f4 : W.cell? ⟨q12, 0, none⟩ = some (.int .u64 R.w)
  f5 : W.cell? ⟨q12, 1, none⟩ = some (.bool R.h)
  f6 : W.cell? ⟨q12, 2, none⟩ = some v
  f7 : W.cell? ⟨q12, 3, none⟩ = some (.int .i64 R.e)
  f8 : W.cell? ⟨b1, 0, none⟩ = some v1
  f9 : W.cell? ⟨b3, 0, none⟩ = some v3
theorem s26_of {w X : World} {N b g c q8 : Nat} {kd on key : Int} {s : Wd} {N' b1 g1 c1 q base : Nat} {R : Rp} {v : Value} {s1 : Wd} {b3 g3 c3 : Nat} {s3 : Wd} (h : Er w N b g c q8 kd on key X s) (h1 : Eg N' b1 g1 c1 q base R v X s1) (h3 : WdAt X b3 g3 c3 s3) :
    S26 X w.heap.size q8 q b1 b3 kd on key R v (.slice (adr g1 c1) s1.W.length c1) (.slice (adr g3 c3) s3.W.length c3) := ⟨h.ar.c0, h.s0, h.s1, h.s2, h1.rp.c0, h1.rp.c1, h1.rp.c2, h1.rp.c3, h1.wd.cell0, h3.cell0⟩
theorem Eg.own' {N b g c q base : Nat} {R : Rp} {v : Value} {X X' : World} {s : Wd} {S : Nat → Prop} (h : Eg N b g c q base R v X s) (k : Keeps S X X') (hS : ∀ i, S i → N ≤ i) : Eg N b g c q base R v X' s := by
  have l := h.hi
  exact ⟨h.wd.kept k (fun e => by have := hS _ e; omega) (fun e => by have := hS _ e; omega), h.rp.keeps k (fun e => by have := hS _ e; omega), own_keeps h.row k (fun i hi e => by have := hS _ e; have := h.own i hi; omega), h.hi, h.own, Nat.le_trans h.sz k.size⟩
end Go.Proofs.Ytmnbilhblkobdaa
