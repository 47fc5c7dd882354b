
/- The arrays and the rows of a play of SeqPlays. No statement of the seat is proved here. -/
import Derived.Test.YtlldffbohojppaaSeqF
namespace Go.Proofs.Ytlldffbohojppaa
open Go.RowKit

/-- The blocks that are no clock's. -/
def Fx (w : World) (v u : Value) : Nat → Prop := fun k => k < w.heap.size + 2 ∨ v.ownBlock = some k ∨ u.ownBlock = some k

def ptrs (L : List Clk) : List Value := L.map fun d => .pointer (some ⟨d.p, 0, none⟩)
def nums (L : List Clk) : List Value := L.flatMap fun d => [.int .u64 d.x, .int .i64 d.st]

structure Rws (w wr : World) (f : Nat → Clk) (v u : Value) (Mv Mu : List Clk) : Prop where
  ac : wr.heap[w.heap.size]? = some (.cells #[.pointer (some ⟨(f 0).p, 0, none⟩), .pointer (some ⟨(f 1).p, 0, none⟩)] 25 (0, 0))
  ar : wr.heap[w.heap.size + 1]? = some (.cells #[.int .u64 (f 0).x, .int .i64 (f 0).st, .int .u64 (f 1).x, .int .i64 (f 1).st] 28 (0, 0))
  ov : wr.ownsRow (w.heap.size + 2) 24 1 v Mv.length (ptrs Mv)
  ou : wr.ownsRow (w.heap.size + 2) 27 2 u Mu.length (nums Mu)
  vu : ∀ g, v.ownBlock = some g → u.ownBlock ≠ some g
  kp : Keeps (fun _ => False) w wr

def blkOf (f : Nat → Clk) (i : Nat) (x st : Int) : Array Value := if i = 0 then #[.int .u64 x, .int .i64 st, .int .u64 (f 1).x, .int .i64 (f 1).st] else #[.int .u64 (f 0).x, .int .i64 (f 0).st, .int .u64 x, .int .i64 st]

theorem two_cases {i : Nat} (h : i < 2) : i = 0 ∨ i = 1 := by omega

theorem blkOf_blk (f : Nat → Clk) {i : Nat} (hi : i < 2) : Blk (i * 2) (blkOf f i) := by
  rcases two_cases hi with rfl | rfl <;> exact ⟨fun _ _ => rfl, fun _ _ => rfl, fun _ _ _ => rfl, fun _ _ _ => rfl⟩

section
variable {w wr w2 : World} {f : Nat → Clk} {v u : Value} {Mv Mu : List Clk}
theorem Rws.keeps {S : Nat → Prop} (h : Rws w wr f v u Mv Mu) (k : Keeps S wr w2) (hs : ∀ k, S k → ¬ Fx w v u k) : Rws w w2 f v u Mv Mu := by
  have hn : ∀ k, Fx w v u k → ¬ S k := fun k hf hS => hs k hS hf
  refine ⟨(k.block _ (lt_of_block h.ac) (hn _ (.inl (by omega)))).trans h.ac, (k.block _ (lt_of_block h.ar) (hn _ (.inl (by omega)))).trans h.ar, own_keep h.ov fun g hg => k.block g (own_block h.ov hg).1 (hn _ (.inr (.inl hg))), own_keep h.ou fun g hg => k.block g (own_block h.ou hg).1 (hn _ (.inr (.inr hg))), h.vu, ?_⟩
  exact ⟨k.os.trans h.kp.os, k.tape.trans h.kp.tape, k.output.trans h.kp.output, Nat.le_trans h.kp.size k.size, fun i hi hf => (k.block i (Nat.lt_of_lt_of_le hi h.kp.size) (hn _ (.inl (by omega)))).trans (h.kp.block i hi hf)⟩
theorem Rws.same (h : Rws w wr f v u Mv Mu) (k : Keeps (fun _ => False) wr w2) : Rws w w2 f v u Mv Mu := h.keeps k (fun _ f => f.elim)
theorem Rws.cellc (h : Rws w wr f v u Mv Mu) {i : Nat} (hi : i < 2) : wr.cell? ⟨w.heap.size, i, none⟩ = some (.pointer (some ⟨(f i).p, 0, none⟩)) := by
  rw [cell_of_block h.ac]
  rcases two_cases hi with rfl | rfl <;> rfl
theorem Rws.ref (h : Rws w wr f v u Mv Mu) {i : Nat} (hi : i < 2) : RefAt wr 28 (w.heap.size + 1) (i * 2) (blkOf f i) (f i).x (f i).st := by
  refine ⟨?_, blkOf_blk f hi⟩
  rcases two_cases hi with rfl | rfl <;> exact h.ar
theorem Rws.lt (h : Rws w wr f v u Mv Mu) {k : Nat} (hk : Fx w v u k) : k < wr.heap.size := by
  rcases hk with hk | hk | hk
  · have := lt_of_block h.ar
    omega
  · exact (own_block h.ov hk).1
  · exact (own_block h.ou hk).1

theorem Rws.played (h : Rws w wr f v u Mv Mu) {i : Nat} (hi : i < 2) (hx : ∀ k, (f i).own k → ¬ Fx w v u k) {x st : Int}
    (hb : Both wr w2 28 (f i).p (f i).b (f i).c (w.heap.size + 1) (i * 2) (blkOf f i) x st) : Rws w w2 (upf f i ⟨(f i).p, (f i).b, (f i).c, x, st⟩) v u Mv Mu := by
  have hn : ∀ k, Fx w v u k → k ≠ w.heap.size + 1 → ¬ (own3 (f i).p (f i).b (f i).c k ∨ k = w.heap.size + 1) := fun k hf hne hS => by
    rcases hS with hS | hS
    · exact hx k hS hf
    · exact hne hS
  have k := hb.kp
  have hc := (k.block _ (lt_of_block h.ac) (hn _ (.inl (by omega)) (by omega))).trans h.ac
  refine ⟨?_, ?_, own_keep h.ov fun g hg => k.block g (own_block h.ov hg).1 (hn _ (.inr (.inl hg)) (by have := (own_block h.ov hg).2; omega)), own_keep h.ou fun g hg => k.block g (own_block h.ou hg).1 (hn _ (.inr (.inr hg)) (by have := (own_block h.ou hg).2; omega)), h.vu, ?_⟩
  · rcases two_cases hi with rfl | rfl <;> exact hc
  · have := hb.ref.at_
    rcases two_cases hi with rfl | rfl <;> exact this
  · exact ⟨k.os.trans h.kp.os, k.tape.trans h.kp.tape, k.output.trans h.kp.output, Nat.le_trans h.kp.size k.size, fun j hj hf => (k.block j (Nat.lt_of_lt_of_le hj h.kp.size) (hn _ (.inl (by omega)) (by omega))).trans (h.kp.block j hj hf)⟩

theorem Rws.copied (h : Rws w wr f v u Mv Mu) {i : Nat} (hi : i < 2) {p b c : Nat} : Rws w (wr.setCell ⟨w.heap.size, i, none⟩ (.pointer (some ⟨p, 0, none⟩))) (upf f i ⟨p, b, c, (f i).x, (f i).st⟩) v u Mv Mu := by
  have k : Keeps (fun k => k = w.heap.size) wr (wr.setCell ⟨w.heap.size, i, none⟩ (.pointer (some ⟨p, 0, none⟩))) := (Keeps.refl (fun k => k = w.heap.size) wr).setCell (p := ⟨w.heap.size, i, none⟩) (.inr rfl) _
  refine ⟨?_, ?_, own_keep h.ov fun g hg => k.block g (own_block h.ov hg).1 (by have := (own_block h.ov hg).2; omega), own_keep h.ou fun g hg => k.block g (own_block h.ou hg).1 (by have := (own_block h.ou hg).2; omega), h.vu, ?_⟩
  · rw [block_set h.ac]
    rcases two_cases hi with rfl | rfl <;> rfl
  · have := (k.block _ (lt_of_block h.ar) (by omega)).trans h.ar
    rcases two_cases hi with rfl | rfl <;> exact this
  · exact h.kp.setCell (p := ⟨w.heap.size, i, none⟩) (.inl (Nat.le_refl _)) _

theorem cells1 (w : World) (a : Value) (t : TypeId) : ∀ j q, [a][j]? = some q → (w.alloc (.cells #[a] t)).cell? ((⟨w.heap.size, 0, none⟩ : Addr).add j) = some q := fun j q hj => by
  rw [addr_add, Nat.zero_add, cell_of_block (MapKept.heap_alloc w _).1]
  simpa using hj
theorem cells2 (w : World) (a b : Value) (t : TypeId) : ∀ j q, [a, b][j]? = some q → (w.alloc (.cells #[a, b] t)).cell? ((⟨w.heap.size, 0, none⟩ : Addr).add j) = some q := fun j q hj => by
  rw [addr_add, Nat.zero_add, cell_of_block (MapKept.heap_alloc w _).1]
  simpa using hj

theorem Rws.pushv (h : Rws w wr f v u Mv Mu) (d : Clk) (hm : Mv.length < 1000) :
    ∃ v' w', (Builtin.append_ #[29, 29] 29 #[v, .slice (some ⟨wr.heap.size, 0, none⟩) 1 1]).run Try.prog (wr.alloc (.cells #[.pointer (some ⟨d.p, 0, none⟩)] 24)) = .ok v' w' ∧ Rws w w' f v' u (Mv ++ [d]) Mu ∧ Keeps (fun k => v.ownBlock = some k) wr w' ∧ (∀ g, v'.ownBlock = some g → v.ownBlock = some g ∨ wr.heap.size ≤ g) := by
  have h1 := h.same ((Keeps.refl _ wr).alloc (.cells #[.pointer (some ⟨d.p, 0, none⟩)] 24))
  have hsz : (wr.alloc (.cells #[.pointer (some ⟨d.p, 0, none⟩)] 24)).heap.size = wr.heap.size + 1 := by simp
  obtain ⟨v', w', r1, r2, r3, r4⟩ := push_row (P := Try.prog) (wr.alloc (.cells #[.pointer (some ⟨d.p, 0, none⟩)] 24)) (w.heap.size + 2) 29 29 24 (.pointer none) 1 8 (by kernel_rfl) (by kernel_rfl) rfl (by decide) v Mv.length (ptrs Mv) h1.ov ⟨wr.heap.size, 0, none⟩ [.pointer (some ⟨d.p, 0, none⟩)] rfl (cells1 wr _ _) (by simp [Value.oneCell']) (by simp only [maxLen]; omega) (by omega) (by have := lt_of_block h1.ar; omega)
  have k1 : Keeps (fun k => v.ownBlock = some k) (wr.alloc (.cells #[.pointer (some ⟨d.p, 0, none⟩)] 24)) w' := (Keeps.refl _ _).grown r3 (fun k e => .inr e)
  have k2 : Keeps (fun k => v.ownBlock = some k) wr w' := ((Keeps.refl _ wr).alloc _).trans k1
  have hw : ∀ g, v'.ownBlock = some g → v.ownBlock = some g ∨ wr.heap.size ≤ g := fun g hg => by
    rcases r4 with r4 | r4
    · exact .inl (r4 ▸ hg)
    · exact .inr (by have := r4 g hg; omega)
  have nb : ∀ k, k < w.heap.size + 2 → ¬ v.ownBlock = some k := fun k hk e => by have := (own_block h.ov e).2; omega
  refine ⟨v', w', r1, ⟨(k2.block _ (lt_of_block h.ac) (nb _ (by omega))).trans h.ac, (k2.block _ (lt_of_block h.ar) (nb _ (by omega))).trans h.ar, ?_, own_keep h.ou fun g hg => k2.block g (own_block h.ou hg).1 (fun e => h.vu g e hg), fun g hg hu => ?_, ?_⟩, k2, hw⟩
  · rw [List.length_append]
    simpa [ptrs] using r2
  · rcases hw g hg with e | e
    · exact h.vu g e hu
    · have := (own_block h.ou hu).1
      omega
  · exact ⟨k2.os.trans h.kp.os, k2.tape.trans h.kp.tape, k2.output.trans h.kp.output, Nat.le_trans h.kp.size k2.size, fun i hi hf => (k2.block i (Nat.lt_of_lt_of_le hi h.kp.size) (nb _ (by omega))).trans (h.kp.block i hi hf)⟩

theorem Rws.pushu (h : Rws w wr f v u Mv Mu) (d : Clk) (hm : Mu.length < 1000) :
    ∃ u' w', (Builtin.append_ #[30, 30] 30 #[u, .slice (some ⟨wr.heap.size, 0, none⟩) 1 1]).run Try.prog (wr.alloc (.cells #[.int .u64 d.x, .int .i64 d.st] 27)) = .ok u' w' ∧ Rws w w' f v u' Mv (Mu ++ [d]) ∧ Keeps (fun k => u.ownBlock = some k) wr w' ∧ (∀ g, u'.ownBlock = some g → u.ownBlock = some g ∨ wr.heap.size ≤ g) := by
  have h1 := h.same ((Keeps.refl _ wr).alloc (.cells #[.int .u64 d.x, .int .i64 d.st] 27))
  have hsz : (wr.alloc (.cells #[.int .u64 d.x, .int .i64 d.st] 27)).heap.size = wr.heap.size + 1 := by simp
  obtain ⟨v', w', r1, r2, r3, r4⟩ := push_row (P := Try.prog) (wr.alloc (.cells #[.int .u64 d.x, .int .i64 d.st] 27)) (w.heap.size + 2) 30 30 27 (.agg #[.int .u64 0, .int .i64 0]) 2 16 (by kernel_rfl) (by kernel_rfl) rfl (by decide) u Mu.length (nums Mu) h1.ou ⟨wr.heap.size, 0, none⟩ [.int .u64 d.x, .int .i64 d.st] rfl (cells2 wr _ _ _) (by simp [Value.oneCell']) (by simp only [maxLen]; omega) (by omega) (by have := lt_of_block h1.ar; omega)
  have k1 : Keeps (fun k => u.ownBlock = some k) (wr.alloc (.cells #[.int .u64 d.x, .int .i64 d.st] 27)) w' := (Keeps.refl _ _).grown r3 (fun k e => .inr e)
  have k2 : Keeps (fun k => u.ownBlock = some k) wr w' := ((Keeps.refl _ wr).alloc _).trans k1
  have hw : ∀ g, v'.ownBlock = some g → u.ownBlock = some g ∨ wr.heap.size ≤ g := fun g hg => by
    rcases r4 with r4 | r4
    · exact .inl (r4 ▸ hg)
    · exact .inr (by have := r4 g hg; omega)
  have nb : ∀ k, k < w.heap.size + 2 → ¬ u.ownBlock = some k := fun k hk e => by have := (own_block h.ou e).2; omega
  refine ⟨v', w', r1, ⟨(k2.block _ (lt_of_block h.ac) (nb _ (by omega))).trans h.ac, (k2.block _ (lt_of_block h.ar) (nb _ (by omega))).trans h.ar, own_keep h.ov fun g hg => k2.block g (own_block h.ov hg).1 (fun e => h.vu g hg e), ?_, fun g hg hu => ?_, ?_⟩, k2, hw⟩
  · rw [List.length_append]
    simpa [nums] using r2
  · rcases hw g hu with e | e
    · exact h.vu g hg e
    · have := (own_block h.ov hg).1
      omega
  · exact ⟨k2.os.trans h.kp.os, k2.tape.trans h.kp.tape, k2.output.trans h.kp.output, Nat.le_trans h.kp.size k2.size, fun i hi hf => (k2.block i (Nat.lt_of_lt_of_le hi h.kp.size) (nb _ (by omega))).trans (h.kp.block i hi hf)⟩
end

end Go.Proofs.Ytlldffbohojppaa
