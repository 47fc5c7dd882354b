/-
  No statement of the seat is proved here. (Several texts in one: SlE, SlF, SlG, SlH.)
-/
import Derived.Test.YtjgibkofenkehaaSlB0
import Derived.Test.YtjgibkofenkehaaSlC

/- Words that are pushed behind others: where the row has no room the old block stays (layer 22). No statement of the seat is proved here. -/
namespace Go.Proofs.Ytjgibkofenkehaa
open Go.RowKit

theorem own_push2 {P : Program} (w : World) (base : Nat) (t ty e : TypeId) (z : Value) (size bytes : Nat) (ht : P.underlying t = some (.slice e)) (hinfo : (P.info? e).map (fun i => (i.zero, i.size, i.bytes)) = some (some z, size, bytes)) (hzs : z.cells.size = size) (hsz : 0 < size)
    (v : Value) (n : Nat) (xs : List Value) (hown : w.ownsRow base e size v n xs) (ad : Addr) (m c : Nat) (us : List Value) (hl : us.length = m * size) (hu : ∀ (j : Nat) (u : Value), us[j]? = some u → w.cell? (ad.add j) = some u) (h1 : ∀ u ∈ us, u.oneCell' = true) (hbytes : (n + m) * bytes ≤ 140737488355328) (hb1 : 0 < bytes) (hbase : base ≤ w.heap.size) :
    ∃ v' w', (Builtin.append_ #[t, t] ty #[v, .slice (some ad) m c]).run P w = .ok v' w' ∧ w'.ownsRow base e size v' (n + m) (xs ++ us) ∧ w.grownBy w' v.ownBlock ∧ (v'.ownBlock = v.ownBlock ∨ ((∀ g, v'.ownBlock = some g → w.heap.size ≤ g) ∧ ∀ i, i < w.heap.size → w'.heap[i]? = w.heap[i]?)) := by
  obtain ⟨i, hi, hz0, hz1, hz2⟩ := info_parts hinfo
  have hnm : n + m ≤ 140737488355328 := Nat.le_trans (Nat.le_mul_of_pos_right _ hb1) hbytes
  have h63 : n + m ≤ maxLen := by simp only [maxLen]; omega
  obtain ⟨v', w', r1, r2, r3, _⟩ := run_append_own (P := P) w base t ty e i z size bytes ht hi hz0 hz1 hz2 hzs hsz v n xs hown ad m c us hl hu h1 h63 hbytes hbase
  refine ⟨v', w', r1, r2, r3, ?_⟩
  rcases hown.2 with ⟨rfl, rfl⟩ | ⟨g, cap, cur, rfl, q1, q2, q3, q4, q5, q6⟩
  · obtain ⟨v2, w2, s1, s2, _⟩ := run_append_own (P := P) w w.heap.size t ty e i z size bytes ht hi hz0 hz1 hz2 hzs hsz (.slice none 0 0) 0 xs ⟨hown.1, .inl ⟨rfl, rfl⟩⟩ ad m c us hl hu h1 h63 hbytes (Nat.le_refl _)
    rw [r1] at s1
    injection s1 with e1 e2
    subst e1; subst e2
    exact .inr ⟨fun g hg => (own_block s2 hg).2, fun i hi => r3.block i hi (by simp [Value.ownBlock])⟩
  · by_cases hc : n + m ≤ cap
    · have s1 := run_append_room (P := P) w t ty e i ht hi g n cap cur q2 ad m c us (by rw [hz1]; exact hl) hu h1 hc (by rw [hz1, q5, hl, ← Nat.add_mul]; exact Nat.mul_le_mul_right _ hc)
      rw [r1] at s1
      injection s1 with e1 e2
      exact .inl (by rw [e1]; rfl)
    · have s1 := run_append_grow (P := P) w t ty e i z ht hi hz0 ⟨g, 0, none⟩ n cap xs (by rw [hz1]; exact hown.1) (fun j v0 hj => by
        rw [addr_add, Nat.zero_add, cell_of_block q2]
        have hlt : j < n * size := by
          have := (List.getElem?_eq_some_iff.1 hj).1
          rw [hown.1] at this; omega
        rw [← q6, List.getElem?_take_of_lt hlt] at hj
        simpa using hj) ad m c us (by rw [hz1]; exact hl) hu (by omega) (by simp only [maxLen] at h63; omega) (growslice_fits (by omega) (by rw [hz2]; exact hbytes))
      rw [r1] at s1
      injection s1 with e1 e2
      refine .inr ⟨fun g' hg => by rw [e1] at hg; cases hg; exact Nat.le_refl _, fun i hi => ?_⟩
      rw [e2]
      exact (keeps_new w _).block i hi (fun f => f)
/-- The mark. -/
@[irreducible] def MK : Int := 1099511627776
theorem MK_eq : MK = 1099511627776 := by unfold MK; rfl
/-- A list of marks and one that was pushed on from it. -/
structure Ap (X : World) (B : Nat) (v m : Value) (n k : Nat) : Prop where
  l : ∃ a c, v = .slice a n c ∧ ∀ i, i < n → ∃ g, a = some ⟨g, 0, none⟩ ∧ X.cell? ⟨g, i, none⟩ = some (.int .u64 MK)
  m : Wr X B m (List.replicate (n + k) MK)
theorem wr_cell {X : World} {B : Nat} {v : Value} {L : List Int} (h : Wr X B v L) {i : Nat} (hi : i < L.length) : ∃ g, v.ownBlock = some g ∧ X.cell? ⟨g, i, none⟩ = some (.int .u64 (oat L i)) := by
  obtain ⟨a, c, e, hc⟩ := h.lies
  obtain ⟨g, off, rfl, h2⟩ := hc i hi
  rcases h.2 with ⟨e2, e3⟩ | ⟨g', cap, cur, e2, _⟩
  · omega
  · rw [e] at e2
    injection e2 with e4 _ _
    injection e4 with e5
    injection e5 with e6 e7 _
    subst e6; subst e7
    rw [Nat.zero_add] at h2
    exact ⟨g, by rw [e]; rfl, h2⟩
theorem oat_rep (n : Nat) {i : Nat} (h : i < n) : oat (List.replicate n MK) i = MK := by unfold oat; simp [h]
theorem Ap.push {X : World} {B : Nat} {v m : Value} {n k : Nat} (h : Ap X B v m n k) (hB : B ≤ X.heap.size) (hn : n + k ≤ 100000) :
    ∃ m' X', (Builtin.append_ #[22, 22] 22 #[m, .slice (some ⟨X.heap.size, 0, none⟩) 1 1]).run Try.prog (X.alloc (.cells #[.int .u64 MK] 32)) = .ok m' X' ∧ Ap X' B v m' n (k + 1) ∧ Keeps (fun i => m.ownBlock = some i) X X' ∧ (m'.ownBlock = m.ownBlock ∨ ∀ g, m'.ownBlock = some g → X.heap.size ≤ g) := by
  have k0 := keeps_new X (.cells #[.int .u64 MK] 32)
  have b0 := alloc_block X (.cells #[.int .u64 MK] 32)
  have hm : Wr (X.alloc (.cells #[.int .u64 MK] 32)) B m (List.replicate (n + k) MK) := own_keeps h.m k0 (fun _ _ f => f)
  have hw := hm
  unfold Wr at hw
  rw [List.length_replicate] at hw
  obtain ⟨m', X', r1, r2, r3, r4⟩ := own_push2 (P := Try.prog) (X.alloc (.cells #[.int .u64 MK] 32)) B 22 22 32 _ 1 8 Try.underlying22 info_word rfl (by decide) m (n + k) _ hw ⟨X.heap.size, 0, none⟩ 1 1 [.int .u64 MK] rfl (fun j u hj => by
    rw [addr_add, Nat.zero_add, cell_of_block b0]
    simpa using hj) (by simp [Value.oneCell']) (by omega) (by decide) (by simp; omega)
  have hr : Wr X' B m' (List.replicate (n + (k + 1)) MK) := by
    unfold Wr
    rw [List.length_replicate, show List.replicate (n + (k + 1)) MK = List.replicate (n + k) MK ++ [MK] by rw [← Nat.add_assoc, List.replicate_succ'], wordsV_append]
    exact r2
  have kp : Keeps (fun i => m.ownBlock = some i) X X' := ⟨r3.os.trans k0.os, r3.tape.trans k0.tape, r3.output.trans k0.output, Nat.le_trans k0.size r3.size, fun i hi hs => (r3.block i (by simp; omega) (fun e => hs e.symm)).trans (k0.block i hi (fun f => f))⟩
  refine ⟨m', X', r1, ⟨?_, hr⟩, kp, ?_⟩
  · obtain ⟨a, c, e, hc⟩ := h.l
    refine ⟨a, c, e, fun i hi => ?_⟩
    obtain ⟨g, rfl, h2⟩ := hc i hi
    refine ⟨g, rfl, ?_⟩
    have hg := World.block_lt_of_cell? _ _ h2
    by_cases hmg : m.ownBlock = some g
    · rcases r4 with q | ⟨_, q⟩
      · obtain ⟨g', e1, e2⟩ := wr_cell hr (i := i) (by simp; omega)
        have e3 : g' = g := (Option.some.inj ((e1.symm.trans q).trans hmg))
        rw [e3] at e2
        exact e2.trans (congrArg (fun z => some (Value.int .u64 z)) (oat_rep _ (by omega)))
      · exact (World.cell?_of_block ((q g (by simp; exact Nat.lt_succ_of_lt hg)).trans (k0.block g hg (fun f => f)))).trans h2
    · exact (World.cell?_of_block (kp.block g hg hmg)).trans h2
  · rcases r4 with q | ⟨q, _⟩
    · exact .inl q
    · exact .inr fun g hg => by have := q g hg; simp at this; omega
end Go.Proofs.Ytjgibkofenkehaa


/- A word of a row is put (layer 22). No statement of the seat is proved here. -/
namespace Go.Proofs.Ytjgibkofenkehaa
open Go.RowKit

theorem Wr.set {X : World} {B : Nat} {v : Value} {L : List Int} (h : Wr X B v L) {k g : Nat} (hk : k < L.length) (hg : v.ownBlock = some g) (x : Int) : Wr (X.setCell ⟨g, k, none⟩ (.int .u64 x)) B v (L.set k x) := by
  rcases h.2 with ⟨_, e⟩ | ⟨g', cap, cur, e, q1, q2, q3, q4, q5, q6⟩
  · omega
  · have e2 : g' = g := by rw [e] at hg; exact Option.some.inj hg
    subst e2
    refine ⟨by simp [wordsV], .inr ⟨g', cap, cur.setIfInBounds k (.int .u64 x), by rw [List.length_set]; exact e, q1, block_set q2 k _, by rw [List.length_set]; exact q3, q4, by simp; omega, ?_⟩⟩
    rw [List.length_set, Array.toList_setIfInBounds, List.take_set, q6]
    unfold wordsV
    rw [List.map_set]
/-- The first phase: so many marks are put. -/
structure P1 (w : World) (B : Nat) (v : Value) (n k : Nat) (X : World) : Prop where
  kp : Keeps (fun i => v.ownBlock = some i) w X
  wr : ∃ L' : List Int, L'.length = n ∧ (∀ i, i < k → oat L' i = MK) ∧ Wr X B v L'
theorem P1.put {w X : World} {B : Nat} {v : Value} {n k g : Nat} (h : P1 w B v n k X) (hk : k < n) (hg : v.ownBlock = some g) : P1 w B v n (k + 1) (X.setCell ⟨g, k, none⟩ (.int .u64 MK)) := by
  obtain ⟨L', h1, h2, h3⟩ := h.wr
  refine ⟨h.kp.setCell (p := ⟨g, k, none⟩) (.inr hg) _, L'.set k MK, by rw [List.length_set]; exact h1, fun i hi => ?_, h3.set (by omega) hg MK⟩
  unfold oat
  rw [List.getElem?_set]
  by_cases e : k = i
  · subst e
    rw [if_pos rfl, if_pos (by omega)]
    rfl
  · rw [if_neg e]
    exact h2 i (by omega)
theorem P1.ap {w X : World} {B : Nat} {v : Value} {n : Nat} (h : P1 w B v n n X) : Ap X B v v n 0 := by
  obtain ⟨L', h1, h2, h3⟩ := h.wr
  have e : L' = List.replicate n MK := by
    apply List.ext_getElem?
    intro x
    rw [List.getElem?_replicate]
    split
    · rename_i hx
      have := h2 x hx
      unfold oat at this
      rw [List.getElem?_eq_getElem (by omega)] at this ⊢
      simpa using this
    · rw [List.getElem?_eq_none (by omega)]
  subst e
  refine ⟨?_, h3⟩
  obtain ⟨a, c, e1⟩ := h3.form
  rw [List.length_replicate] at e1
  refine ⟨a, c, e1, fun i hi => ?_⟩
  obtain ⟨g, q1, q2⟩ := wr_cell h3 (i := i) (by simp; exact hi)
  rw [oat_rep _ hi] at q2
  rcases h3.2 with ⟨_, e⟩ | ⟨g', cap, cur, e, _⟩
  · simp at e; omega
  · rw [e1] at e q1
    injection e with e4 _ _
    subst e4
    have e5 : g' = g := Option.some.inj q1
    subst e5
    exact ⟨g', rfl, q2⟩
end Go.Proofs.Ytjgibkofenkehaa


/- Apart of one list (layer 22). No statement of the seat is proved here. -/
namespace Go.Proofs.Ytjgibkofenkehaa
open Go.RowKit

theorem info_sl : (Try.prog.info? 22).map (fun i => (i.zero, i.size, i.bytes)) = some (some (.slice none 0 0), 1, 24) := by kernel_rfl
structure A2 (w : World) (B : Nat) (v : Value) (n : Nat) (X : World) (m : Value) (k : Nat) : Prop where
  ap : Ap X B v m n k
  kp : Keeps (fun i => v.ownBlock = some i) w X
  ob : m.ownBlock = v.ownBlock ∨ ∀ g, m.ownBlock = some g → w.heap.size ≤ g
theorem A2.more {w X : World} {B n k : Nat} {v m : Value} (h : A2 w B v n X m k) (hB : B ≤ w.heap.size) (hn : n + k ≤ 100000) :
    ∃ m' X', Hid ((Builtin.append_ #[22, 22] 22 #[m, .slice (some ⟨X.heap.size, 0, none⟩) 1 1]).run Try.prog (X.alloc (.cells #[.int .u64 1099511627776] 32)) = .ok m' X') ∧ A2 w B v n X' m' (k + 1) := by
  obtain ⟨m', X', r1, r2, r3, r4⟩ := h.ap.push (Nat.le_trans hB h.kp.size) hn
  rw [MK_eq] at r1
  refine ⟨m', X', hid r1, r2, h.kp.step r3 (fun i hi e => ?_), ?_⟩
  · rcases h.ob with q | q
    · rw [← q]; exact e
    · have := q i e; omega
  · rcases r4 with q | q
    · rw [q]; exact h.ob
    · exact .inr fun g hg => Nat.le_trans h.kp.size (q g hg)
structure A3 (w : World) (B : Nat) (v : Value) (n : Nat) (X : World) (lv : Value) : Prop where
  m : ∃ lg c mv, lv = .slice (some ⟨lg, 0, none⟩) 1 c ∧ X.cell? ⟨lg, 0, none⟩ = some mv ∧ Ap X B v mv n 20
  kp : Keeps (fun i => v.ownBlock = some i) w X
theorem A2.last {w X : World} {B n : Nat} {v m : Value} (h : A2 w B v n X m 20) :
    ∃ lv X', Hid ((Builtin.append_ #[112, 112] 112 #[.slice none 0 0, .slice (some ⟨X.heap.size, 0, none⟩) 1 1]).run Try.prog (X.alloc (.cells #[m] 22)) = .ok lv X') ∧ A3 w B v n X' lv := by
  have k0 := keeps_new X (.cells #[m] 22)
  have b0 := alloc_block X (.cells #[m] 22)
  obtain ⟨a, c, hm⟩ := h.ap.m.form
  obtain ⟨lv, X', r1, r2, r3, r4⟩ := own_push (P := Try.prog) (X.alloc (.cells #[m] 22)) 0 112 112 22 _ 1 24 Try.underlying112 info_sl rfl (by decide) (.slice none 0 0) 0 [] ⟨rfl, .inl ⟨rfl, rfl⟩⟩ ⟨X.heap.size, 0, none⟩ 1 1 [m] rfl (fun j u hj => by
    rw [addr_add, Nat.zero_add, cell_of_block b0]
    simpa using hj) (fun u hu => by simp at hu; subst hu; rw [hm]; rfl) (by decide) (by decide) (Nat.zero_le _)
  have kp : Keeps (fun _ => False) X X' := ⟨r3.os.trans k0.os, r3.tape.trans k0.tape, r3.output.trans k0.output, Nat.le_trans k0.size r3.size, fun i hi hs => (r3.block i (by simp; omega) (by simp [Value.ownBlock])).trans (k0.block i hi (fun f => f))⟩
  refine ⟨lv, X', hid r1, ?_, h.kp.step kp (fun _ _ f => f.elim)⟩
  rcases r2.2 with ⟨_, e⟩ | ⟨lg, cap, cur, e, _⟩
  · omega
  · refine ⟨lg, cap, m, e, ?_, ⟨?_, own_keeps h.ap.m kp (fun _ _ f => f)⟩⟩
    · have q := r2.cells (g := lg) (by rw [e]; rfl) 0 m rfl
      rw [addr_add] at q
      exact q
    · obtain ⟨a, c, e, hc⟩ := h.ap.l
      refine ⟨a, c, e, fun i hi => ?_⟩
      obtain ⟨g, e1, h2⟩ := hc i hi
      exact ⟨g, e1, (World.cell?_of_block (kp.block g (World.block_lt_of_cell? _ _ h2) (fun f => f))).trans h2⟩
set_option maxRecDepth 100000 in
set_option maxHeartbeats 4000000 in
theorem apart1 (q : Nat) (v : Value) (L : List Int) (B : Nat) (hL : L.length ≤ 70000) (w : World) (hB : B ≤ w.heap.size) (hq : w.cell? ⟨q, 0, none⟩ = some v) (hv : Wr w B v L) (hvq : v.ownBlock ≠ some q) :
    Calls Try.prog 39 #[.slice (some ⟨q, 0, none⟩) 1 1] w fun e w' => e = .returned (.bool true) ∧ Keeps (fun i => v.ownBlock = some i) w w' := by
  have hql := World.block_lt_of_cell? _ _ hq
  have hrow : ∀ X, Keeps (fun i => v.ownBlock = some i) w X → X.cell? ⟨q, 0, none⟩ = some v := fun X k => (World.cell?_of_block (k.block q hql hvq)).trans hq
  have HR := hid hrow
  have h0 : P1 w B v L.length 0 w := ⟨Keeps.refl _ _, L, rfl, fun i hi => absurd hi (by omega), hv⟩
  obtain ⟨a, c, rfl⟩ := hv.form
  generalize L.length = n at *
  obtain ⟨v, hvd⟩ : ∃ v, v = Value.slice a n c := ⟨_, rfl⟩
  rw [← hvd] at HR h0
  have HV := hid hvd
  have HB := hid (And.intro hB hL)
  have HP0 := hid h0
  clear hrow hv hvq hql hB h0 hq
  go_enter Try.func39, Try.ntmps39
  go_wp2_with fail
  go_loopw [3] (fun i wr => (i = .int .i64 0 ∧ wr = w) ∨ (i = .int .i64 1 ∧ P1 w B v n n wr)) (fun i _ => 1 - (intOf i).toNat)
  case atStart => exact .inl ⟨rfl, rfl⟩
  case round =>
    rcases hrel with ⟨rfl, rfl⟩ | ⟨rfl, hP⟩
    · go_wp2_with fail
      go_loopw [4] (fun k wr' => ∃ m : Nat, m ≤ n ∧ k = .int .i64 m ∧ P1 wr B v n m wr') (fun k _ => n - (intOf k).toNat)
      case atStart => exact ⟨0, by omega, rfl, HP0.out⟩
      case round =>
        obtain ⟨m, hm, rfl, hP⟩ := hrel
        have hc1 := HR.out _ hP.kp
        rw [hvd] at hc1
        by_cases hmt : m < n
        · have hmt' : (m : Int) < (n : Int) := by omega
          obtain ⟨L', e1, _, e3⟩ := hP.wr
          obtain ⟨g, e4, e5⟩ := wr_cell e3 (i := m) (by omega)
          rcases e3.2 with ⟨_, e⟩ | ⟨g', cap, cur, e, _, hb, _⟩
          · omega
          have hgg : g' = g := by rw [e] at e4; exact Option.some.inj e4
          subst hgg
          have hf := frozen_of_block hb m
          have hPn := hP.put hmt e4
          rw [MK_eq] at hPn
          have HPn := hid hPn
          rw [hvd] at e
          injection e with e6 _ _
          subst e6
          clear hP hPn e1 e3 e4 hb
          go_wp2_with fail
          exact ⟨⟨m + 1, by omega, by go_num, HPn.out⟩, by simp [intOf]; omega⟩
        · have hmt' : ¬ (m : Int) < (n : Int) := by omega
          obtain rfl : m = n := by omega
          have HPn := hid hP
          clear hP
          go_wp2_with fail
          go_roundw
          case rel => exact .inr ⟨by go_num, HPn.out⟩
          case measure => simp [intOf]
    · have hc1 := HR.out _ hP.kp
      have HA0 : Hid (A2 w B v n wr v 0) := hid ⟨hP.ap, hP.kp, .inl rfl⟩
      clear hP HP0
      go_wp2_with fail
      go_loopw [5, 6] (fun lv i wr' => (lv = .slice none 0 0 ∧ i = .int .i64 0 ∧ wr' = wr) ∨ (i = .int .i64 1 ∧ A3 w B v n wr' lv)) (fun _ i _ => 1 - (intOf i).toNat)
      case atStart => exact .inl ⟨rfl, rfl, rfl⟩
      case round =>
        rcases hrel with ⟨rfl, rfl, rfl⟩ | ⟨rfl, hA3⟩
        · rw [hvd] at hc1
          go_wp2_with fail
          go_loopw [7, 8] (fun mv k wr' => ∃ j : Nat, j ≤ 20 ∧ k = .int .i64 j ∧ A2 w B v n wr' mv j) (fun _ k _ => 20 - (intOf k).toNat)
          case atStart => exact ⟨0, by omega, rfl, by rw [← hvd]; exact HA0.out⟩
          case round =>
            obtain ⟨j, hj, rfl, hA⟩ := hrel
            clear hc1
            by_cases hjl : j < 20
            · have hjl' : (j : Int) < 20 := by omega
              obtain ⟨mv', X', HR2, hA'⟩ := hA.more HB.out.1 (by have := HB.out.2; omega)
              have HA' := hid hA'
              clear hA hA'
              go_wp2_with (at_builtin; refine wpList_append_run rfl _ _ 22 rfl rfl rfl HR2.out ?_; clear HR2)
              exact ⟨⟨j + 1, by omega, by go_num, HA'.out⟩, by simp [intOf]; omega⟩
            · have hjl' : ¬ (j : Int) < 20 := by omega
              obtain rfl : j = 20 := by omega
              obtain ⟨ma, mc, hme⟩ := hA.ap.m.form
              rw [List.length_replicate] at hme
              subst hme
              obtain ⟨lv', X', HR2, hA'⟩ := hA.last
              have HA' := hid hA'
              clear hA hA'
              go_wp2_with (at_builtin; refine wpList_append_run rfl _ _ 112 rfl rfl rfl HR2.out ?_; clear HR2)
              go_roundw
              case rel => exact .inr ⟨by go_num, HA'.out⟩
              case measure => simp [intOf]
        · have hc2 := HR.out _ hA3.kp
          rw [hvd] at hc2
          obtain ⟨lg, lc, mv, rfl, hl, hap⟩ := hA3.m
          obtain ⟨ma, mc, rfl⟩ := hap.m.form
          rw [List.length_replicate] at hl
          have hm1 : ∀ k, k < n + 20 → ∃ g, ma = some ⟨g, 0, none⟩ ∧ wr.cell? ⟨g, k, none⟩ = some (.int .u64 1099511627776) := fun k hk => by
            obtain ⟨g, e1, e2⟩ := wr_cell hap.m (i := k) (by simp; exact hk)
            rcases hap.m.2 with ⟨_, e⟩ | ⟨g', cap, cur, e, _⟩
            · simp at e
            · injection e with e4 _ _
              subst e4
              have e5 : g' = g := Option.some.inj e1
              subst e5
              rw [oat_rep _ hk, MK_eq] at e2
              exact ⟨g', rfl, e2⟩
          have hl1 : ∀ k, k < n → ∃ g, a = some ⟨g, 0, none⟩ ∧ wr.cell? ⟨g, k, none⟩ = some (.int .u64 1099511627776) := fun k hk => by
            obtain ⟨a', c', e, h2⟩ := hap.l
            rw [hvd] at e
            injection e with e1 _ _
            subst e1
            rw [MK_eq] at h2
            exact h2 k hk
          have HM := hid (And.intro hm1 hl1)
          have HK := hid hA3.kp
          clear hA3 hap hm1 hl1 HA0 hc1 HR
          obtain ⟨W4, hW4⟩ : ∃ Z, Z = wr := ⟨_, rfl⟩
          subst hW4
          go_wp2_with fail
          go_loopw [9] (fun i wr' => (i = .int .i64 0 ∨ i = .int .i64 1) ∧ wr' = W4) (fun i _ => 1 - (intOf i).toNat)
          case atStart => exact ⟨.inl rfl, rfl⟩
          case round =>
            obtain ⟨rfl | rfl, rfl⟩ := hrel
            · go_wp2_with fail
              go_loopw [10] (fun k wr' => ∃ j : Nat, j ≤ n + 20 ∧ k = .int .i64 j ∧ wr' = wr) (fun k _ => n + 20 - (intOf k).toNat)
              case atStart => exact ⟨0, by omega, rfl, rfl⟩
              case round =>
                obtain ⟨j, hj, rfl, rfl⟩ := hrel
                by_cases hjl : j < n + 20
                · have hjl' : (j : Int) < (n : Int) + 20 := by omega
                  obtain ⟨mg, rfl, hmk⟩ := HM.out.1 j hjl
                  by_cases hnt : j < n
                  · have hnt' : (j : Int) < (n : Int) := by omega
                    obtain ⟨g, rfl, hlk⟩ := HM.out.2 j hnt
                    clear HM
                    go_wp2_with fail
                    exact ⟨⟨j + 1, by omega, by go_num, trivial⟩, by simp [intOf]; omega⟩
                  · have hnt' : ¬ (j : Int) < (n : Int) := by omega
                    clear HM
                    go_wp2_with fail
                    exact ⟨⟨j + 1, by omega, by go_num, trivial⟩, by simp [intOf]; omega⟩
                · have hjl' : ¬ (j : Int) < (n : Int) + 20 := by omega
                  clear HM
                  go_wp2_with fail
                  go_roundw
                  case rel => exact ⟨.inr (by go_num), trivial⟩
                  case measure => simp [intOf]
            · clear HM
              go_wp2_with fail
              go_ret
              exact ⟨rfl, by rw [← hvd]; exact HK.out⟩
end Go.Proofs.Ytjgibkofenkehaa


/- A list that was told, beside the tx and the tape (layer 22). No statement of the seat is proved here. -/
namespace Go.Proofs.Ytjgibkofenkehaa
open Go.RowKit

theorem eachL_out : ∀ (f : Nat) (out : List Int) (l : Lk) (e : Int) (n : Nat) (s : Wd), (eachL f out l e n s).1.1.length ≤ out.length + f
  | 0, out, l, e, n, s => by show out.length ≤ _; omega
  | f + 1, out, l, e, n, s => by
    unfold eachL
    split
    · obtain ⟨⟨⟨l', e'⟩, n', s'⟩, eq⟩ : ∃ r, s.fol n (uw (l.nd + 2)) = r := ⟨_, rfl⟩
      rw [eq]
      have ih := eachL_out f (out ++ [l.k]) l' e' n' s'
      rw [List.length_append, List.length_singleton] at ih
      show (eachL f (out ++ [l.k]) l' e' n' s').1.1.length ≤ _
      omega
    · show out.length ≤ _; omega
theorem keys_out (s : Wd) (at_ : Int) : (s.keys at_).1.1.length ≤ 70000 := by
  obtain ⟨⟨⟨l, e⟩, n, s1⟩, eq⟩ : ∃ r, s.fol 0 at_ = r := ⟨_, rfl⟩
  have q3 := eachL_out FU [] l e n s1
  have q4 : s.each at_ = eachL FU [] l e n s1 := by unfold Wd.each; rw [eq]
  obtain ⟨⟨⟨out, e'⟩, s2⟩, eq2⟩ : ∃ r, eachL FU [] l e n s1 = r := ⟨_, rfl⟩
  rw [eq2] at q3 q4
  have q5 : out.length ≤ 0 + FU := q3
  have q6 : FU = 65545 := rfl
  unfold Wd.keys
  rw [q4]
  dsimp only
  split
  · show (0 : Nat) ≤ _; omega
  · show out.length ≤ _; omega
theorem told_on {w X w1 w2 : World} {b1 g1 c1 b2 g2 c2 : Nat} {s s1 s2 : Wd} {v : Value} {L : List Int} (d : Du w b1 g1 c1 b2 g2 c2 X s s) (h1 : Hs 27 X b1 g1 c1 w1 s1) (hv : Wr w1 X.heap.size v L) (hno : ∀ k, v.ownBlock = some k → ¬ own w1 b1 g1 k) (h2 : Hs 30 w1 b2 g2 c2 w2 s2) :
    Wr w2 X.heap.size v L ∧ ∀ k, v.ownBlock = some k → w.heap.size ≤ k ∧ ¬ own w2 b1 g1 k ∧ ¬ own w2 b2 g2 k := by
  have d1 := d.tx h1
  have hk : Keeps (own X b1 g1) X w1 := h1.k.k.mono (fun i _ e => e.elim id (fun f => f.elim))
  have ho := own_kept d.r.ltb hk (fun i hi e => d.dj i e hi)
  have key : ∀ k, v.ownBlock = some k → ∃ o, w1.heap[k]? = some o ∧ L2 w2 b1 g1 b2 g2 k o := by
    intro k e
    obtain ⟨q1, q2⟩ := own_block hv e
    obtain ⟨o, e1⟩ : ∃ o, w1.heap[k]? = some o := ⟨_, Array.getElem?_eq_getElem q1⟩
    have l2 : L2 w1 b1 g1 b2 g2 k o := ⟨e1, hno k e, fun f => by have := d.r.lto ((ho k).1 f); omega⟩
    exact ⟨o, e1, l2.tp d1 h2⟩
  refine ⟨own_keep hv (fun k e => ?_), fun k e => ?_⟩
  · obtain ⟨o, e1, l2⟩ := key k e
    rw [e1]; exact l2.at_
  · obtain ⟨o, e1, l2⟩ := key k e
    have q := (own_block hv e).2
    exact ⟨Nat.le_trans d.k.size q, l2.n1, l2.n2⟩
end Go.Proofs.Ytjgibkofenkehaa
