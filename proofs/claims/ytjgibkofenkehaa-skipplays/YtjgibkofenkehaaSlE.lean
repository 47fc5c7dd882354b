
/- Words that are pushed behind others: where the row has no room the old block stays (layer 22). No statement of the seat is proved here. -/
import Derived.Test.YtjgibkofenkehaaSlB0
namespace Go.Proofs.Ytjgibkofenkehaa
open Go.RowKit

theorem own_push2 {P : Program} (w : World) (base : Nat) (t ty e : TypeId) (z : Value) (size bytes : Nat) (ht : P.underlying t = some (.slice e)) (hinfo : (P.info? e).map (fun i => (i.zero, i.size, i.bytes)) = some (some z, size, bytes)) (hzs : z.cells.size = size) (hsz : 0 < size)
    (v : Value) (n : Nat) (xs : List Value) (hown : w.ownsRow base e size v n xs) (ad : Addr) (m c : Nat) (us : List Value) (hl : us.length = m * size) (hu : ∀ (j : Nat) (u : Value), us[j]? = some u → w.cell? (ad.add j) = some u) (h1 : ∀ u ∈ us, u.oneCell' = true) (hbytes : (n + m) * bytes ≤ 140737488355328) (hb1 : 0 < bytes) (hbase : base ≤ w.heap.size) :
    ∃ v' w', (Builtin.append_ #[t, t] ty #[v, .slice (some ad) m c]).run P w = .ok v' w' ∧ w'.ownsRow base e size v' (n + m) (xs ++ us) ∧ w.grownBy w' v.ownBlock ∧ (v'.ownBlock = v.ownBlock ∨ ((∀ g, v'.ownBlock = some g → w.heap.size ≤ g) ∧ ∀ i, i < w.heap.size → w'.heap[i]? = w.heap[i]?)) := by
  obtain ⟨i, hi, hz0, hz1, hz2⟩ := info_parts hinfo
  have hnm : n + m ≤ 140737488355328 := Nat.le_trans (Nat.le_mul_of_pos_right _ hb1) hbytes
  have h63 : n + m ≤ maxLen := by simp only [maxLen]; omega
  obtain ⟨v', w', r1, r2, r3, _⟩ := run_append_own (P := P) w base t ty e i z size bytes ht hi hz0 hz1 hz2 hzs hsz v n xs hown ad m c us hl hu h1 h63 hbytes hbase
  refine ⟨v', w', r1, r2, r3, ?_⟩
  rcases hown.2 with ⟨rfl, rfl⟩ | ⟨g, cap, cur, rfl, q1, q2, q3, q4, q5, q6⟩
  · obtain ⟨v2, w2, s1, s2, _⟩ := run_append_own (P := P) w w.heap.size t ty e i z size bytes ht hi hz0 hz1 hz2 hzs hsz (.slice none 0 0) 0 xs ⟨hown.1, .inl ⟨rfl, rfl⟩⟩ ad m c us hl hu h1 h63 hbytes (Nat.le_refl _)
    rw [r1] at s1
    injection s1 with e1 e2
    subst e1; subst e2
    exact .inr ⟨fun g hg => (own_block s2 hg).2, fun i hi => r3.block i hi (by simp [Value.ownBlock])⟩
  · by_cases hc : n + m ≤ cap
    · have s1 := run_append_room (P := P) w t ty e i ht hi g n cap cur q2 ad m c us (by rw [hz1]; exact hl) hu h1 hc (by rw [hz1, q5, hl, ← Nat.add_mul]; exact Nat.mul_le_mul_right _ hc)
      rw [r1] at s1
      injection s1 with e1 e2
      exact .inl (by rw [e1]; rfl)
    · have s1 := run_append_grow (P := P) w t ty e i z ht hi hz0 ⟨g, 0, none⟩ n cap xs (by rw [hz1]; exact hown.1) (fun j v0 hj => by
        rw [addr_add, Nat.zero_add, cell_of_block q2]
        have hlt : j < n * size := by
          have := (List.getElem?_eq_some_iff.1 hj).1
          rw [hown.1] at this; omega
        rw [← q6, List.getElem?_take_of_lt hlt] at hj
        simpa using hj) ad m c us (by rw [hz1]; exact hl) hu (by omega) (by simp only [maxLen] at h63; omega) (growslice_fits (by omega) (by rw [hz2]; exact hbytes))
      rw [r1] at s1
      injection s1 with e1 e2
      refine .inr ⟨fun g' hg => by rw [e1] at hg; cases hg; exact Nat.le_refl _, fun i hi => ?_⟩
      rw [e2]
      exact (keeps_new w _).block i hi (fun f => f)
/-- The mark. -/
@[irreducible] def MK : Int := 1099511627776
theorem MK_eq : MK = 1099511627776 := by unfold MK; rfl
/-- A list of marks and one that was pushed on from it. -/
structure Ap (X : World) (B : Nat) (v m : Value) (n k : Nat) : Prop where
  l : ∃ a c, v = .slice a n c ∧ ∀ i, i < n → ∃ g, a = some ⟨g, 0, none⟩ ∧ X.cell? ⟨g, i, none⟩ = some (.int .u64 MK)
  m : Wr X B m (List.replicate (n + k) MK)
theorem wr_cell {X : World} {B : Nat} {v : Value} {L : List Int} (h : Wr X B v L) {i : Nat} (hi : i < L.length) : ∃ g, v.ownBlock = some g ∧ X.cell? ⟨g, i, none⟩ = some (.int .u64 (oat L i)) := by
  obtain ⟨a, c, e, hc⟩ := h.lies
  obtain ⟨g, off, rfl, h2⟩ := hc i hi
  rcases h.2 with ⟨e2, e3⟩ | ⟨g', cap, cur, e2, _⟩
  · omega
  · rw [e] at e2
    injection e2 with e4 _ _
    injection e4 with e5
    injection e5 with e6 e7 _
    subst e6; subst e7
    rw [Nat.zero_add] at h2
    exact ⟨g, by rw [e]; rfl, h2⟩
theorem oat_rep (n : Nat) {i : Nat} (h : i < n) : oat (List.replicate n MK) i = MK := by unfold oat; simp [h]
theorem Ap.push {X : World} {B : Nat} {v m : Value} {n k : Nat} (h : Ap X B v m n k) (hB : B ≤ X.heap.size) (hn : n + k ≤ 100000) :
    ∃ m' X', (Builtin.append_ #[22, 22] 22 #[m, .slice (some ⟨X.heap.size, 0, none⟩) 1 1]).run Try.prog (X.alloc (.cells #[.int .u64 MK] 32)) = .ok m' X' ∧ Ap X' B v m' n (k + 1) ∧ Keeps (fun i => m.ownBlock = some i) X X' ∧ (m'.ownBlock = m.ownBlock ∨ ∀ g, m'.ownBlock = some g → X.heap.size ≤ g) := by
  have k0 := keeps_new X (.cells #[.int .u64 MK] 32)
  have b0 := alloc_block X (.cells #[.int .u64 MK] 32)
  have hm : Wr (X.alloc (.cells #[.int .u64 MK] 32)) B m (List.replicate (n + k) MK) := own_keeps h.m k0 (fun _ _ f => f)
  have hw := hm
  unfold Wr at hw
  rw [List.length_replicate] at hw
  obtain ⟨m', X', r1, r2, r3, r4⟩ := own_push2 (P := Try.prog) (X.alloc (.cells #[.int .u64 MK] 32)) B 22 22 32 _ 1 8 Try.underlying22 info_word rfl (by decide) m (n + k) _ hw ⟨X.heap.size, 0, none⟩ 1 1 [.int .u64 MK] rfl (fun j u hj => by
    rw [addr_add, Nat.zero_add, cell_of_block b0]
    simpa using hj) (by simp [Value.oneCell']) (by omega) (by decide) (by simp; omega)
  have hr : Wr X' B m' (List.replicate (n + (k + 1)) MK) := by
    unfold Wr
    rw [List.length_replicate, show List.replicate (n + (k + 1)) MK = List.replicate (n + k) MK ++ [MK] by rw [← Nat.add_assoc, List.replicate_succ'], wordsV_append]
    exact r2
  have kp : Keeps (fun i => m.ownBlock = some i) X X' := ⟨r3.os.trans k0.os, r3.tape.trans k0.tape, r3.output.trans k0.output, Nat.le_trans k0.size r3.size, fun i hi hs => (r3.block i (by simp; omega) (fun e => hs e.symm)).trans (k0.block i hi (fun f => f))⟩
  refine ⟨m', X', r1, ⟨?_, hr⟩, kp, ?_⟩
  · obtain ⟨a, c, e, hc⟩ := h.l
    refine ⟨a, c, e, fun i hi => ?_⟩
    obtain ⟨g, rfl, h2⟩ := hc i hi
    refine ⟨g, rfl, ?_⟩
    have hg := World.block_lt_of_cell? _ _ h2
    by_cases hmg : m.ownBlock = some g
    · rcases r4 with q | ⟨_, q⟩
      · obtain ⟨g', e1, e2⟩ := wr_cell hr (i := i) (by simp; omega)
        have e3 : g' = g := (Option.some.inj ((e1.symm.trans q).trans hmg))
        rw [e3] at e2
        exact e2.trans (congrArg (fun z => some (Value.int .u64 z)) (oat_rep _ (by omega)))
      · exact (World.cell?_of_block ((q g (by simp; exact Nat.lt_succ_of_lt hg)).trans (k0.block g hg (fun f => f)))).trans h2
    · exact (World.cell?_of_block (kp.block g hg hmg)).trans h2
  · rcases r4 with q | ⟨q, _⟩
    · exact .inl q
    · exact .inr fun g hg => by have := q g hg; simp at this; omega
end Go.Proofs.Ytjgibkofenkehaa
