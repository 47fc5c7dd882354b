
/- What the law ListPlays keeps (layer 21). No statement of the seat is proved here. -/
import Derived.Test.YtmnbilhblkobdaaLyX
namespace Go.Proofs.Ytmnbilhblkobdaa
open Go.RowKit

/-- Above a place, what lay stays. -/
structure KH (lo : Nat) (X X' : World) : Prop where
  sz : X.heap.size ≤ X'.heap.size
  same : ∀ i, lo < i → i < X.heap.size → X'.heap[i]? = X.heap[i]?
theorem KH.refl (lo : Nat) (X : World) : KH lo X X := ⟨Nat.le_refl _, fun _ _ _ => rfl⟩
theorem KH.step {lo : Nat} {X0 X X' : World} {S : Nat → Prop} (h : KH lo X0 X) (k : Keeps S X X') (hS : ∀ i, S i → i ≤ lo ∨ X0.heap.size ≤ i) : KH lo X0 X' :=
  ⟨Nat.le_trans h.sz k.size, fun i h1 h2 => (k.block i (Nat.lt_of_lt_of_le h2 h.sz) (fun e => by have := hS i e; omega)).trans (h.same i h1 h2)⟩
theorem KH.trans {lo : Nat} {X0 X X' : World} (h : KH lo X0 X) (k : KH lo X X') : KH lo X0 X' :=
  ⟨Nat.le_trans h.sz k.sz, fun i h1 h2 => (k.same i h1 (Nat.lt_of_lt_of_le h2 h.sz)).trans (h.same i h1 h2)⟩
def Ab (lo : Nat) (v : Value) : Prop := ∀ a m c, v = .slice (some a) m c → lo < a.block
theorem Lies.kh {lo : Nat} {X X' : World} {v : Value} {L : List Int} (h : Lies X v L) (ha : Ab lo v) (k : KH lo X X') : Lies X' v L := by
  obtain ⟨a, c, rfl, hc⟩ := h
  refine ⟨a, c, rfl, fun i hi => ?_⟩
  obtain ⟨g, off, rfl, hcell⟩ := hc i hi
  have hb := k.same g (ha _ _ _ rfl) (World.block_lt_of_cell? _ _ hcell)
  exact ⟨g, off, rfl, (World.cell?_of_block hb).trans hcell⟩
theorem KR.kh {lo : Nat} {X X' : World} {v : Value} {L : List Int} (h : KR X v L) (ha : Ab lo v) (k : KH lo X X') : KR X' v L := by
  rcases h with q | ⟨g, c, rfl, hp, hc, hcell⟩
  · exact .inl q
  · exact .inr ⟨g, c, rfl, hp, hc, fun i hi => (World.cell?_of_block (k.same g (ha _ _ _ rfl) (World.block_lt_of_cell? _ _ (hcell i hi)))).trans (hcell i hi)⟩
theorem Near.ab {w : World} {v u : Value} {lo : Nat} (h : Near w v u) (hv : Ab lo v) (hw : lo < w.heap.size) : Ab lo u := by
  intro a m c e
  rcases h a m c e with q | ⟨n', c', q⟩
  · omega
  · exact hv a n' c' q
theorem Wr.ab {X : World} {v : Value} {L : List Int} {base lo : Nat} (h : Wr X base v L) (hb : lo < base) : Ab lo v := by
  intro a m c e
  subst e
  rcases h.2 with ⟨q, _⟩ | ⟨g', cap, cur, q, h1, h2, _⟩
  · cases q
  · cases q; exact Nat.lt_of_lt_of_le hb h1
def ky (k : Nat) {α : Type} (a b : α) : α := if k = 0 then a else b
/-- What the law keeps. -/
structure Pw (w : World) (b g c q7 q9 : Nat) (X1 Y : World) (s : Wd) (v0 v1 : Value) : Prop where
  k : Keeps (fun _ => False) w Y
  wd : WdAt Y b g c s
  ar : ArAt Y q7 18 20
  ks : Y.heap[q9]? = some (.cells #[v0, v1] 31 (0, 0))
  kh : KH q9 X1 Y
  lo : w.heap.size ≤ b ∧ w.heap.size ≤ g ∧ w.heap.size ≤ q7 ∧ b < q7 ∧ g < q7 ∧ q7 < q9
  hi : q9 < X1.heap.size
section
variable {w X1 Y Y' : World} {b g c q7 q9 : Nat} {s s' : Wd} {v0 v1 : Value} {S : Nat → Prop}
theorem Pw.acc (h : Pw w b g c q7 q9 X1 Y s v0 v1) (k : Keeps (two b g) Y Y') (wd : WdAt Y' b g c s') : Pw w b g c q7 q9 X1 Y' s' v0 v1 := by
  have l := h.lo
  refine ⟨h.k.step k (fun i hi e => by rcases e with e | e <;> omega), wd, h.ar.keeps k (by rintro (e | e) <;> omega), (k.block _ (lt_of_block h.ks) (by rintro (e | e) <;> omega)).trans h.ks, h.kh.step k (fun i e => by rcases e with e | e <;> omega), h.lo, h.hi⟩
theorem Pw.own (h : Pw w b g c q7 q9 X1 Y s v0 v1) (k : Keeps S Y Y') (hS : ∀ i, S i → X1.heap.size ≤ i) : Pw w b g c q7 q9 X1 Y' s v0 v1 := by
  have l := h.lo
  have hh := h.hi
  have hf : ∀ i, i ≤ q9 → ¬ S i := fun i hi e => by have := hS i e; omega
  refine ⟨h.k.step k (fun i hi e => by have := hS i e; omega), h.wd.kept k (hf b (by omega)) (hf g (by omega)), h.ar.keeps k (hf q7 (by omega)), (k.block _ (lt_of_block h.ks) (hf q9 (by omega))).trans h.ks, h.kh.step k (fun i e => .inr (hS i e)), h.lo, h.hi⟩
theorem Pw.new (h : Pw w b g c q7 q9 X1 Y s v0 v1) (k : Keeps (fun _ => False) Y Y') : Pw w b g c q7 q9 X1 Y' s v0 v1 := h.own k (fun _ f => f.elim)
theorem Pw.base (h : Pw w b g c q7 q9 X1 Y s v0 v1) : Pw w b g c q7 q9 Y Y s v0 v1 := ⟨h.k, h.wd, h.ar, h.ks, KH.refl _ _, h.lo, Nat.lt_of_lt_of_le h.hi h.kh.sz⟩
theorem Pw.put7 (h : Pw w b g c q7 q9 X1 Y s v0 v1) (kk : Nat) (hk : kk < 2) : Pw w b g c q7 q9 X1 (Y.setCell ⟨q7, kk, none⟩ (.int .u64 (ky kk 18 20))) s v0 v1 := by
  have l := h.lo
  have k := keeps_cell Y q7 kk (.int .u64 (ky kk 18 20))
  have ar : ArAt (Y.setCell ⟨q7, kk, none⟩ (.int .u64 (ky kk 18 20))) q7 18 20 := by
    rcases (show kk = 0 ∨ kk = 1 by omega) with rfl | rfl
    · exact h.ar.set0 18
    · exact h.ar.set1 20
  exact ⟨h.k.step k (fun i hi e => by omega), h.wd.kept k (by omega) (by omega), ar, (k.block _ (lt_of_block h.ks) (by omega)).trans h.ks, h.kh.step k (fun i e => by omega), h.lo, h.hi⟩
theorem Pw.put9 (h : Pw w b g c q7 q9 X1 Y s v0 v1) (kk : Nat) (hk : kk < 2) (u : Value) : Pw w b g c q7 q9 X1 (Y.setCell ⟨q9, kk, none⟩ u) s (ky kk u v0) (ky kk v1 u) := by
  have l := h.lo
  have k := keeps_cell Y q9 kk u
  have ks : (Y.setCell ⟨q9, kk, none⟩ u).heap[q9]? = some (.cells #[ky kk u v0, ky kk v1 u] 31 (0, 0)) := by
    rw [block_set h.ks]
    rcases (show kk = 0 ∨ kk = 1 by omega) with rfl | rfl <;> rfl
  exact ⟨h.k.step k (fun i hi e => by omega), h.wd.kept k (by omega) (by omega), h.ar.keeps k (by omega), ks, h.kh.step k (fun i e => by omega), h.lo, h.hi⟩
theorem Pw.a (h : Pw w b g c q7 q9 X1 Y s v0 v1) (kk : Nat) (hk : kk < 2) : Y.cell? ⟨q7, kk, none⟩ = some (.int .u64 (ky kk 18 20)) := by
  rcases (show kk = 0 ∨ kk = 1 by omega) with rfl | rfl
  · exact h.ar.c0
  · exact h.ar.c1
theorem Pw.v (h : Pw w b g c q7 q9 X1 Y s v0 v1) (kk : Nat) (hk : kk < 2) : Y.cell? ⟨q9, kk, none⟩ = some (ky kk v0 v1) := by
  rw [cell_of_block h.ks]
  rcases (show kk = 0 ∨ kk = 1 by omega) with rfl | rfl <;> rfl
theorem Pw.fr9 (h : Pw w b g c q7 q9 X1 Y s v0 v1) (i : Nat) : Y.frozen? ⟨q9, i, none⟩ = false := frozen_of_block h.ks i
end
/-- Two lists of keys and their room. -/
structure Pk (X1 : World) (q9 n : Nat) (W : List Int) (v0 v1 : Value) (N0 N1 : List (Nat × Int)) : Prop where
  r0 : KR X1 v0 (N0.map Prod.snd)
  r1 : KR X1 v1 (N1.map Prod.snd)
  p0 : Ab q9 v0
  p1 : Ab q9 v1
  rm : ∃ F, Rm2 W n 18 N0 20 N1 F
theorem Pk.at_ {X1 : World} {q9 n : Nat} {W : List Int} {v0 v1 : Value} {N0 N1 : List (Nat × Int)} (h : Pk X1 q9 n W v0 v1 N0 N1) (kk : Nat) (hk : kk < 2) : KR X1 (ky kk v0 v1) ((ky kk N0 N1).map Prod.snd) ∧ Ab q9 (ky kk v0 v1) ∧ ∃ F, Rm2 W n (ky kk 18 20) (ky kk N0 N1) (ky kk 20 18) (ky kk N1 N0) F := by
  rcases (show kk = 0 ∨ kk = 1 by omega) with rfl | rfl
  · exact ⟨h.r0, h.p0, h.rm⟩
  · obtain ⟨F, q⟩ := h.rm
    exact ⟨h.r1, h.p1, F, q.swap⟩
theorem Pk.kh {X1 X2 : World} {q9 n : Nat} {W : List Int} {v0 v1 : Value} {N0 N1 : List (Nat × Int)} (h : Pk X1 q9 n W v0 v1 N0 N1) (k : KH q9 X1 X2) : Pk X2 q9 n W v0 v1 N0 N1 := ⟨h.r0.kh h.p0 k, h.r1.kh h.p1 k, h.p0, h.p1, h.rm⟩
theorem Pk.len {X1 : World} {q9 n : Nat} {W : List Int} {v0 v1 : Value} {N0 N1 : List (Nat × Int)} (h : Pk X1 q9 n W v0 v1 N0 N1) : N0.length ≤ 200 ∧ N1.length ≤ 200 := by
  obtain ⟨F, q⟩ := h.rm
  exact ⟨Rm2.size (s := ⟨W, 0, 0, 0, 0⟩) q, Rm2.size (s := ⟨W, 0, 0, 0, 0⟩) q.swap⟩
/-- Keys of one list in another place. -/
theorem Pk.put {X1 X2 : World} {q9 n : Nat} {W W' : List Int} {v0 v1 u : Value} {N0 N1 M : List (Nat × Int)} (h : Pk X1 q9 n W v0 v1 N0 N1) (k : KH q9 X1 X2) (kk : Nat) (hk : kk < 2) (hu : KR X2 u (M.map Prod.snd)) (hp : Ab q9 u) {F : List Nat} (hr : Rm2 W' n (ky kk 18 20) M (ky kk 20 18) (ky kk N1 N0) F) :
    Pk X2 q9 n W' (ky kk u v0) (ky kk v1 u) (ky kk M N0) (ky kk N1 M) := by
  have h2 := h.kh k
  rcases (show kk = 0 ∨ kk = 1 by omega) with rfl | rfl
  · exact ⟨hu, h2.r1, hp, h2.p1, F, hr⟩
  · exact ⟨h2.r0, hu, h2.p0, hp, F, hr.swap⟩
theorem kk_of (on : Int) : ∃ kk : Nat, kk < 2 ∧ IntKind.i64.wrap (on.tmod 2 + 2) = on.tmod 2 + 2 ∧ (on.tmod 2 + 2).tmod 2 = (kk : Int) := by
  have h1 := Int.tmod_lt_of_pos on (show (0 : Int) < 2 by decide)
  have h2 : -2 < on.tmod 2 := Int.lt_tmod_of_pos on (by decide)
  have h3 : IntKind.i64.wrap (on.tmod 2 + 2) = on.tmod 2 + 2 := by rw [IntKind.wrap_i64]; omega
  have h4 := Int.tmod_lt_of_pos (on.tmod 2 + 2) (show (0 : Int) < 2 by decide)
  have h5 : 0 ≤ (on.tmod 2 + 2).tmod 2 := Int.tmod_nonneg _ (by omega)
  exact ⟨((on.tmod 2 + 2).tmod 2).toNat, by omega, h3, by omega⟩
end Go.Proofs.Ytmnbilhblkobdaa
