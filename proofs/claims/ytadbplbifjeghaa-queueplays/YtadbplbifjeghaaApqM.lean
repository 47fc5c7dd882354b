/-
  No statement of the seat is proved here. (Several texts in one: ApqA, ApqB.)
-/
import Derived.Test.YtadbplbifjeghaaQuW
import Derived.Test.YtadbplbifjeghaaATail
import Derived.Test.YtadbplbifjeghaaQuC

/- Lists that were answered are apart: each written over and grown (layer 23). No statement of the seat is proved here. -/
namespace Go.Proofs.Ytadbplbifjeghaa
open Go.RowKit

theorem keepsN (X : World) (o : Obj) : Keeps (fun _ => False) X (X.alloc o) := (Keeps.refl _ X).alloc o
theorem own_push2 {P : Program} (w : World) (base : Nat) (t ty e : TypeId) (z : Value) (size bytes : Nat) (ht : P.underlying t = some (.slice e)) (hinfo : (P.info? e).map (fun i => (i.zero, i.size, i.bytes)) = some (some z, size, bytes)) (hzs : z.cells.size = size) (hsz : 0 < size)
    (v : Value) (n : Nat) (xs : List Value) (hown : w.ownsRow base e size v n xs) (ad : Addr) (m c : Nat) (us : List Value) (hl : us.length = m * size) (hu : ∀ (j : Nat) (u : Value), us[j]? = some u → w.cell? (ad.add j) = some u) (h1 : ∀ u ∈ us, u.oneCell' = true) (hbytes : (n + m) * bytes ≤ 140737488355328) (hb1 : 0 < bytes) (hbase : base ≤ w.heap.size) :
    ∃ v' w', (Builtin.append_ #[t, t] ty #[v, .slice (some ad) m c]).run P w = .ok v' w' ∧ w'.ownsRow base e size v' (n + m) (xs ++ us) ∧ w.grownBy w' v.ownBlock ∧ (v'.ownBlock = v.ownBlock ∨ ((∀ g, v'.ownBlock = some g → w.heap.size ≤ g) ∧ ∀ i, i < w.heap.size → w'.heap[i]? = w.heap[i]?)) := by
  obtain ⟨i, hi, hz0, hz1, hz2⟩ := info_parts hinfo
  have hnm : n + m ≤ 140737488355328 := Nat.le_trans (Nat.le_mul_of_pos_right _ hb1) hbytes
  have h63 : n + m ≤ maxLen := by simp only [maxLen]; omega
  obtain ⟨v', w', r1, r2, r3, _⟩ := run_append_own (P := P) w base t ty e i z size bytes ht hi hz0 hz1 hz2 hzs hsz v n xs hown ad m c us hl hu h1 h63 hbytes hbase
  refine ⟨v', w', r1, r2, r3, ?_⟩
  rcases hown.2 with ⟨rfl, rfl⟩ | ⟨g, cap, cur, rfl, q1, q2, q3, q4, q5, q6⟩
  · obtain ⟨v2, w2, s1, s2, _⟩ := run_append_own (P := P) w w.heap.size t ty e i z size bytes ht hi hz0 hz1 hz2 hzs hsz (.slice none 0 0) 0 xs ⟨hown.1, .inl ⟨rfl, rfl⟩⟩ ad m c us hl hu h1 h63 hbytes (Nat.le_refl _)
    rw [r1] at s1
    injection s1 with e1 e2
    subst e1; subst e2
    exact .inr ⟨fun g hg => (own_block s2 hg).2, fun i hi => r3.block i hi (by simp [Value.ownBlock])⟩
  · by_cases hc : n + m ≤ cap
    · have s1 := run_append_room (P := P) w t ty e i ht hi g n cap cur q2 ad m c us (by rw [hz1]; exact hl) hu h1 hc (by rw [hz1, q5, hl, ← Nat.add_mul]; exact Nat.mul_le_mul_right _ hc)
      rw [r1] at s1
      injection s1 with e1 e2
      exact .inl (by rw [e1]; rfl)
    · have s1 := run_append_grow (P := P) w t ty e i z ht hi hz0 ⟨g, 0, none⟩ n cap xs (by rw [hz1]; exact hown.1) (fun j v0 hj => by
        rw [addr_add, Nat.zero_add, cell_of_block q2]
        have hlt : j < n * size := by
          have := (List.getElem?_eq_some_iff.1 hj).1
          rw [hown.1] at this; omega
        rw [← q6, List.getElem?_take_of_lt hlt] at hj
        simpa using hj) ad m c us (by rw [hz1]; exact hl) hu (by omega) (by simp only [maxLen] at h63; omega) (growslice_fits (by omega) (by rw [hz2]; exact hbytes))
      rw [r1] at s1
      injection s1 with e1 e2
      refine .inr ⟨fun g' hg => by rw [e1] at hg; cases hg; exact Nat.le_refl _, fun i hi => ?_⟩
      rw [e2]
      exact (keepsN w _).block i hi (fun f => f)
theorem wr_cell {X : World} {B : Nat} {v : Value} {L : List Int} (h : Wr X B v L) {i : Nat} (hi : i < L.length) : ∃ g, v.ownBlock = some g ∧ X.cell? ⟨g, i, none⟩ = some (.int .u64 (oat L i)) := by
  obtain ⟨a, c, e, hc⟩ := h.lies
  obtain ⟨g, off, rfl, h2⟩ := hc i hi
  rcases h.2 with ⟨e2, e3⟩ | ⟨g', cap, cur, e2, _⟩
  · omega
  · rw [e] at e2
    injection e2 with e4 _ _
    injection e4 with e5
    injection e5 with e6 e7 _
    subst e6; subst e7
    rw [Nat.zero_add] at h2
    exact ⟨g, by rw [e]; rfl, h2⟩
theorem Wr.set {X : World} {B : Nat} {v : Value} {L : List Int} (h : Wr X B v L) {k g : Nat} (hk : k < L.length) (hg : v.ownBlock = some g) (x : Int) : Wr (X.setCell ⟨g, k, none⟩ (.int .u64 x)) B v (L.set k x) := by
  rcases h.2 with ⟨_, e⟩ | ⟨g', cap, cur, e, q1, q2, q3, q4, q5, q6⟩
  · omega
  · have e2 : g' = g := by rw [e] at hg; exact Option.some.inj hg
    subst e2
    refine ⟨by simp [wordsV], .inr ⟨g', cap, cur.setIfInBounds k (.int .u64 x), by rw [List.length_set]; exact e, q1, block_set q2 k _, by rw [List.length_set]; exact q3, q4, by simp; omega, ?_⟩⟩
    rw [List.length_set, Array.toList_setIfInBounds, List.take_set, q6]
    unfold wordsV
    rw [List.map_set]
def mkI (i : Nat) : Int := 1099511627776 + (i : Int)
theorem mk_val (i : Nat) (hi : i < 2199023255553) : IntKind.u64.wrap (1099511627776 + IntKind.u64.wrap (i : Int)) = mkI i := by
  unfold mkI
  simp [IntKind.wrap, IntKind.signed, IntKind.bits]
  omega
theorem info_sl : (Try.prog.info? 36).map (fun i => (i.zero, i.size, i.bytes)) = some (some (.slice none 0 0), 1, 24) := by kernel_rfl
theorem oat_rep (x : Int) (n : Nat) {i : Nat} (h : i < n) : oat (List.replicate n x) i = x := by unfold oat; simp [h]
theorem rep_of {L : List Int} {n : Nat} {x : Int} (h1 : L.length = n) (h2 : ∀ i, i < n → oat L i = x) : L = List.replicate n x := by
  apply List.ext_getElem?
  intro j
  rw [List.getElem?_replicate]
  split
  · rename_i hx
    have := h2 j hx
    unfold oat at this
    rw [List.getElem?_eq_getElem (by omega)] at this ⊢
    simpa using this
  · rw [List.getElem?_eq_none (by omega)]
/-- The words of a row, in their cells. -/
def Cl (X : World) (v : Value) (n : Nat) (x : Int) : Prop := ∃ a c, v = .slice a n c ∧ ∀ i, i < n → ∃ g, a = some ⟨g, 0, none⟩ ∧ X.cell? ⟨g, i, none⟩ = some (.int .u64 x)
theorem Cl.keeps {S : Nat → Prop} {X X' : World} {v : Value} {n : Nat} {x : Int} (h : Cl X v n x) (k : Keeps S X X') (hS : ∀ g, v.ownBlock = some g → ¬ S g) : Cl X' v n x := by
  obtain ⟨a, c, e, hc⟩ := h
  refine ⟨a, c, e, fun i hi => ?_⟩
  obtain ⟨g, rfl, h2⟩ := hc i hi
  exact ⟨g, rfl, (World.cell?_of_block (k.block g (World.block_lt_of_cell? _ _ h2) (hS g (by rw [e]; rfl)))).trans h2⟩
theorem Cl.of {X : World} {v : Value} {n : Nat} {x : Int} (h : Wr X 0 v (List.replicate n x)) : Cl X v n x := by
  obtain ⟨a, c, e1⟩ := h.form
  rw [List.length_replicate] at e1
  refine ⟨a, c, e1, fun i hi => ?_⟩
  obtain ⟨g, q1, q2⟩ := wr_cell h (i := i) (by simp; exact hi)
  rw [oat_rep _ _ hi] at q2
  rcases h.2 with ⟨_, e⟩ | ⟨g', cap, cur, e, _⟩
  · simp at e; omega
  · rw [e1] at e q1
    injection e with e4 _ _
    subst e4
    have e5 : g' = g := Option.some.inj q1
    subst e5
    exact ⟨g', rfl, q2⟩
/-- One of them, grown by k marks. -/
structure Gq (Wi X : World) (v m : Value) (x : Int) (n k : Nat) : Prop where
  cl : Cl X v n x
  wr : Wr X 0 m (List.replicate (n + k) x)
  kp : Keeps (fun i => v.ownBlock = some i) Wi X
  ob : m.ownBlock = v.ownBlock ∨ ∀ g, m.ownBlock = some g → Wi.heap.size ≤ g
theorem Gq.more {Wi X : World} {v m : Value} {x : Int} {n k : Nat} (h : Gq Wi X v m x n k) (hn : n + k ≤ 1000000) :
    ∃ m' X', Hid ((Builtin.append_ #[36, 36] 36 #[m, .slice (some ⟨X.heap.size, 0, none⟩) 1 1]).run Try.prog (X.alloc (.cells #[.int .u64 x] 33)) = .ok m' X') ∧ Gq Wi X' v m' x n (k + 1) := by
  have k0 := keepsN X (.cells #[.int .u64 x] 33)
  have b0 := alloc_block X (.cells #[.int .u64 x] 33)
  have hm : Wr (X.alloc (.cells #[.int .u64 x] 33)) 0 m (List.replicate (n + k) x) := own_keeps h.wr k0 (fun _ _ f => f)
  have hw := hm
  unfold Wr at hw
  rw [List.length_replicate] at hw
  obtain ⟨m', X', r1, r2, r3, r4⟩ := own_push2 (P := Try.prog) (X.alloc (.cells #[.int .u64 x] 33)) 0 36 36 33 _ 1 8 Try.underlying36 info_word rfl (by decide) m (n + k) _ hw ⟨X.heap.size, 0, none⟩ 1 1 [.int .u64 x] rfl (fun j u hj => by
    rw [addr_add, Nat.zero_add, cell_of_block b0]
    simpa using hj) (by simp [Value.oneCell']) (by omega) (by decide) (Nat.zero_le _)
  have hr : Wr X' 0 m' (List.replicate (n + (k + 1)) x) := by
    unfold Wr
    rw [List.length_replicate, show List.replicate (n + (k + 1)) x = List.replicate (n + k) x ++ [x] by rw [← Nat.add_assoc, List.replicate_succ'], wordsV_append]
    exact r2
  have kp : Keeps (fun i => m.ownBlock = some i) X X' := ⟨r3.os.trans k0.os, r3.tape.trans k0.tape, r3.output.trans k0.output, Nat.le_trans k0.size r3.size, fun i hi hs => (r3.block i (by simp; omega) (fun e => hs e.symm)).trans (k0.block i hi (fun f => f))⟩
  refine ⟨m', X', hid r1, ⟨?_, hr, h.kp.step kp (fun i hi e => ?_), ?_⟩⟩
  · obtain ⟨a, c, e, hc⟩ := h.cl
    refine ⟨a, c, e, fun i hi => ?_⟩
    obtain ⟨g, rfl, h2⟩ := hc i hi
    refine ⟨g, rfl, ?_⟩
    have hg := World.block_lt_of_cell? _ _ h2
    by_cases hmg : m.ownBlock = some g
    · rcases r4 with q | ⟨_, q⟩
      · obtain ⟨g', e1, e2⟩ := wr_cell hr (i := i) (by simp; omega)
        have e3 : g' = g := (Option.some.inj ((e1.symm.trans q).trans hmg))
        rw [e3] at e2
        exact e2.trans (congrArg (fun z => some (Value.int .u64 z)) (oat_rep _ _ (by omega)))
      · exact (World.cell?_of_block ((q g (by simp; exact Nat.lt_succ_of_lt hg)).trans (k0.block g hg (fun f => f)))).trans h2
    · exact (World.cell?_of_block (kp.block g hg hmg)).trans h2
  · rcases h.ob with q | q
    · rw [← q]; exact e
    · have := q i e; omega
  · rcases r4 with q | ⟨q, _⟩
    · rcases h.ob with p | p
      · exact .inl (q.trans p)
      · exact .inr fun g hg => p g (by rw [← q]; exact hg)
    · exact .inr fun g hg => by have := q g hg; have := h.kp.size; simp at *; omega

/-- The lists: rows, and how long they are. -/
abbrev Tq := List (Value × Nat)
def Tq.on (T : Tq) (q : Nat) : Prop := ∃ (i : Nat) (v : Value) (n : Nat), T[i]? = some (v, n) ∧ v.ownBlock = some q
structure Tq.Ok (T : Tq) : Prop where
  sep : ∀ (i j : Nat) (v v' : Value) (n n' g : Nat), T[i]? = some (v, n) → T[j]? = some (v', n') → v.ownBlock = some g → v'.ownBlock = some g → i = j
  sz : ∀ (i : Nat) (v : Value) (n : Nat), T[i]? = some (v, n) → n ≤ 900000
  le : T.length ≤ 1000
def TqRow (X : World) (va : Value) (T : Tq) : Prop := ∃ a c, va = .slice a T.length c ∧ ∀ (i : Nat) (v : Value) (n : Nat), T[i]? = some (v, n) → ∃ g, a = some ⟨g, 0, none⟩ ∧ X.cell? ⟨g, i, none⟩ = some v ∧ ¬ T.on g
theorem TqRow.keeps {S : Nat → Prop} {X X' : World} {va : Value} {T : Tq} (h : TqRow X va T) (k : Keeps S X X') (hS : ∀ q, S q → T.on q) : TqRow X' va T := by
  obtain ⟨a, c, e, hc⟩ := h
  refine ⟨a, c, e, fun i v n ht => ?_⟩
  obtain ⟨g, q1, q2, q3⟩ := hc i v n ht
  exact ⟨g, q1, (World.cell?_of_block (k.block g (World.block_lt_of_cell? _ _ q2) (fun e => q3 (hS g e)))).trans q2, q3⟩
/-- The first loop: all are written over. -/
structure Q1 (w X : World) (va : Value) (T : Tq) (i : Nat) : Prop where
  kp : Keeps T.on w X
  row : TqRow X va T
  all : ∀ (j : Nat) (v : Value) (n : Nat), T[j]? = some (v, n) → ∃ L : List Int, L.length = n ∧ Wr X 0 v L ∧ (j < i → L = List.replicate n (mkI j))
structure Q1i (X0 X : World) (v : Value) (x : Int) (n k : Nat) : Prop where
  kp : Keeps (fun i => v.ownBlock = some i) X0 X
  wr : ∃ L : List Int, L.length = n ∧ (∀ i, i < k → oat L i = x) ∧ Wr X 0 v L
theorem Q1i.put {X0 X : World} {v : Value} {x : Int} {n k g : Nat} (h : Q1i X0 X v x n k) (hk : k < n) (hg : v.ownBlock = some g) : Q1i X0 (X.setCell ⟨g, k, none⟩ (.int .u64 x)) v x n (k + 1) := by
  obtain ⟨L', h1, h2, h3⟩ := h.wr
  refine ⟨h.kp.setCell (p := ⟨g, k, none⟩) (.inr hg) _, L'.set k x, by rw [List.length_set]; exact h1, fun i hi => ?_, h3.set (by omega) hg x⟩
  unfold oat
  rw [List.getElem?_set]
  by_cases e : k = i
  · subst e
    rw [if_pos rfl, if_pos (by omega)]
    rfl
  · rw [if_neg e]
    exact h2 i (by omega)
theorem Q1.next {w X0 X : World} {va v : Value} {T : Tq} {i n : Nat} (hT : T.Ok) (h : Q1 w X0 va T i) (ht : T[i]? = some (v, n)) (hi : Q1i X0 X v (mkI i) n n) : Q1 w X va T (i + 1) := by
  have hon : ∀ q, v.ownBlock = some q → T.on q := fun q e => ⟨i, v, n, ht, e⟩
  refine ⟨h.kp.trans (hi.kp.mono fun q _ e => hon q e), h.row.keeps hi.kp hon, fun j v' n' hj => ?_⟩
  by_cases hji : j = i
  · subst hji
    rw [ht] at hj
    cases hj
    obtain ⟨L, q1, q2, q3⟩ := hi.wr
    exact ⟨L, q1, q3, fun _ => rep_of q1 q2⟩
  · obtain ⟨L, q1, q2, q3⟩ := h.all j v' n' hj
    exact ⟨L, q1, own_keeps q2 hi.kp (fun g hg e => hji (hT.sep j i v' v n' n g hj ht hg e)), fun h => q3 (by omega)⟩
/-- The second loop: the lists that were grown. -/
structure Q2 (W2 X : World) (T : Tq) (lv : Value) (H : List Value) : Prop where
  kp : Keeps T.on W2 X
  row : X.ownsRow W2.heap.size 36 1 lv H.length H
  le : H.length ≤ T.length
  each : ∀ (j : Nat) (v : Value) (n : Nat), j < H.length → T[j]? = some (v, n) → ∃ m, H[j]? = some m ∧ Cl X v n (mkI j) ∧ Wr X 0 m (List.replicate (n + 20) (mkI j)) ∧ (m.ownBlock = v.ownBlock ∨ ∀ g, m.ownBlock = some g → W2.heap.size ≤ g)
  rest : ∀ (j : Nat) (v : Value) (n : Nat), H.length ≤ j → T[j]? = some (v, n) → Wr X 0 v (List.replicate n (mkI j))
  old : ∀ q, T.on q → q < W2.heap.size
theorem wr_kind {X : World} {m : Value} {L : List Int} (h : Wr X 0 m L) {q : Nat} (hq : m.ownBlock = some q) : ∃ c, X.heap[q]? = some (.cells c 33 (0, 0)) := by
  rcases h.2 with ⟨rfl, _⟩ | ⟨g, cap, cur, rfl, _, h2, _⟩
  · cases hq
  · cases hq; exact ⟨_, h2⟩
theorem row_kind {X : World} {B n : Nat} {t : TypeId} {lv : Value} {H : List Value} (h : X.ownsRow B t 1 lv n H) {q : Nat} (hq : lv.ownBlock = some q) : ∃ c, X.heap[q]? = some (.cells c t (0, 0)) := by
  rcases h.2 with ⟨rfl, _⟩ | ⟨g, cap, cur, rfl, _, h2, _⟩
  · cases hq
  · cases hq; exact ⟨_, h2⟩
theorem wr_row_ne {X : World} {B n : Nat} {m lv : Value} {L : List Int} {H : List Value} (h : Wr X 0 m L) (h' : X.ownsRow B 36 1 lv n H) {q : Nat} (hq : m.ownBlock = some q) : lv.ownBlock ≠ some q := fun e => by
  obtain ⟨c1, h1⟩ := wr_kind h hq
  obtain ⟨c2, h2⟩ := row_kind h' e
  rw [h1] at h2
  injection h2 with h2
  injection h2 with _ h3
  exact absurd h3 (by decide)
theorem Q2.more {W2 X X1 : World} {T : Tq} {lv v mv : Value} {n : Nat} {H : List Value} (hT : T.Ok) (h : Q2 W2 X T lv H) (ht : T[H.length]? = some (v, n)) (hg : Gq X X1 v mv (mkI H.length) n 20) :
    ∃ lv' X', Hid ((Builtin.append_ #[93, 93] 93 #[lv, .slice (some ⟨X1.heap.size, 0, none⟩) 1 1]).run Try.prog (X1.alloc (.cells #[mv] 36)) = .ok lv' X') ∧ Q2 W2 X' T lv' (H ++ [mv]) := by
  have hlt : H.length < T.length := (List.getElem?_eq_some_iff.1 ht).1
  have hle := hT.le
  obtain ⟨a, c, hmv⟩ := hg.wr.form
  have k0 := keepsN X1 (.cells #[mv] 36)
  have b0 := alloc_block X1 (.cells #[mv] 36)
  have hon : ∀ q, v.ownBlock = some q → T.on q := fun q e => ⟨H.length, v, n, ht, e⟩
  have hlvn : ∀ q, lv.ownBlock = some q → v.ownBlock ≠ some q := fun q e e2 => by
    have p1 := (own_block h.row e).2
    have p2 := h.old q (hon q e2)
    omega
  have hrow1 : X1.ownsRow W2.heap.size 36 1 lv H.length H := own_keeps h.row hg.kp (fun q e => hlvn q e)
  have hrow : (X1.alloc (.cells #[mv] 36)).ownsRow W2.heap.size 36 1 lv H.length H := own_keeps hrow1 k0 (fun _ _ f => f)
  have hsz1 := h.kp.size
  have hsz2 := hg.kp.size
  obtain ⟨lv', X', r1, r2, r3, r4⟩ := own_push (P := Try.prog) (X1.alloc (.cells #[mv] 36)) W2.heap.size 93 93 36 _ 1 24 Try.underlying93 info_sl rfl (by decide) lv H.length H hrow ⟨X1.heap.size, 0, none⟩ 1 1 [mv] rfl (fun j u hj => by
    rw [addr_add, Nat.zero_add, cell_of_block b0]
    simpa using hj) (fun u hu => by simp at hu; subst hu; rw [hmv]; rfl) (by omega) (by decide) (by simp; omega)
  have k1 : Keeps (fun q => lv.ownBlock = some q) X1 X' := (k0.mono fun _ _ f => f.elim).trans (keeps_grown r3)
  have k2 : Keeps (fun q => v.ownBlock = some q ∨ lv.ownBlock = some q) X X' := (hg.kp.mono fun _ _ e => .inl e).trans (k1.mono fun _ _ e => .inr e)
  refine ⟨lv', X', hid r1, ⟨?_, ?_, by simp; omega, fun j v' n' hj hj' => ?_, fun j v' n' hj hj' => ?_, h.old⟩⟩
  · refine h.kp.step k2 (fun q hq e => ?_)
    rcases e with e | e
    · exact hon q e
    · have := (own_block h.row e).2; omega
  · rw [List.length_append]
    exact r2
  · by_cases hjl : j < H.length
    · obtain ⟨m, q1, q2, q3, q4⟩ := h.each j v' n' hjl hj'
      refine ⟨m, by rw [List.getElem?_append_left hjl]; exact q1, q2.keeps k2 (fun g hg' e => ?_), own_keeps q3 k2 (fun g hg' e => ?_), q4⟩
      · rcases e with e | e
        · have := hT.sep j H.length v' v n' n g hj' ht hg' e; omega
        · have p1 := (own_block h.row e).2
          have p2 := h.old g ⟨j, v', n', hj', hg'⟩
          omega
      · rcases e with e | e
        · rcases q4 with q4 | q4
          · rw [q4] at hg'
            have := hT.sep j H.length v' v n' n g hj' ht hg' e; omega
          · have p1 := q4 g hg'
            have p2 := h.old g (hon g e)
            omega
        · exact wr_row_ne q3 h.row hg' e
    · obtain rfl : j = H.length := by simp at hj; omega
      rw [ht] at hj'
      cases hj'
      refine ⟨mv, by simp, hg.cl.keeps k1 (fun g hg' e => hlvn g e hg'), own_keeps hg.wr k1 (fun g hg' e => wr_row_ne hg.wr hrow1 hg' e), ?_⟩
      rcases hg.ob with q | q
      · exact .inl q
      · exact .inr fun g hg' => by have := q g hg'; omega
  · rw [List.length_append, List.length_singleton] at hj
    refine own_keeps (h.rest j v' n' (by omega) hj') k2 (fun g hg' e => ?_)
    rcases e with e | e
    · have := hT.sep j H.length v' v n' n g hj' ht hg' e; omega
    · have p1 := (own_block h.row e).2
      have p2 := h.old g ⟨j, v', n', hj', hg'⟩
      omega
theorem Q1.two {w X : World} {va : Value} {T : Tq} (h : Q1 w X va T T.length) : Q2 X X T (.slice none 0 0) [] :=
  ⟨Keeps.refl _ _, ⟨rfl, .inl ⟨rfl, rfl⟩⟩, Nat.zero_le _, fun j v n hj => absurd hj (Nat.not_lt_zero _), fun j v n _ hj => by
    obtain ⟨L, q1, q2, q3⟩ := h.all j v n hj
    rw [← q3 (List.getElem?_eq_some_iff.1 hj).1]; exact q2, fun q hq => by
    obtain ⟨i, v, n, ht, e⟩ := hq
    obtain ⟨L, _, q2, _⟩ := h.all i v n ht
    exact (own_block q2 e).1⟩
theorem Q2.start {W2 X : World} {T : Tq} {lv v : Value} {n : Nat} {H : List Value} (h : Q2 W2 X T lv H) (ht : T[H.length]? = some (v, n)) : Gq X X v v (mkI H.length) n 0 :=
  have p := h.rest _ v n (Nat.le_refl _) ht
  ⟨Cl.of p, by rw [Nat.add_zero]; exact p, Keeps.refl _ _, .inl rfl⟩
end Go.Proofs.Ytadbplbifjeghaa


/- Lists that were answered are apart, walked (layer 23). No statement of the seat is proved here. -/
namespace Go.Proofs.Ytadbplbifjeghaa
open Go.RowKit

set_option maxRecDepth 100000 in
set_option maxHeartbeats 4000000 in
theorem apart_wr (va : Value) (T : Tq) (w : World) (hT : T.Ok) (h : ∀ (j : Nat) (v : Value) (n : Nat), T[j]? = some (v, n) → ∃ L : List Int, L.length = n ∧ Wr w 0 v L) (hr : TqRow w va T) :
    Calls Try.prog 27 #[va] w fun e w' => e = .returned (.bool true) ∧ Keeps T.on w w' := by
  obtain ⟨av, cv, hv, hcv⟩ := id hr
  subst hv
  have hle : (T.length : Int) ≤ 1000 := by have := hT.le; omega
  have HT := hid hT
  have hQ0 : Q1 w w (.slice av T.length cv) T 0 := ⟨Keeps.refl _ _, hr, fun j v n hj => by obtain ⟨L, q1, q2⟩ := h j v n hj; exact ⟨L, q1, q2, fun e => absurd e (Nat.not_lt_zero _)⟩⟩
  clear hcv hT h hr
  go_enter Try.func27, Try.ntmps27
  go_wp2_with fail
  go_loopw [3] (fun i wr => ∃ k : Nat, k ≤ T.length ∧ i = .int .i64 k ∧ Q1 w wr (.slice av T.length cv) T k) (fun i _ => T.length - (intOf i).toNat)
  case atStart => exact ⟨0, by omega, rfl, hQ0⟩
  case round =>
    clear hQ0
    obtain ⟨i, hi, rfl, hA⟩ := hrel
    by_cases hlt : i < T.length
    · have hlt' : (i : Int) < (T.length : Int) := by omega
      obtain ⟨⟨v, n⟩, ht⟩ : ∃ t, T[i]? = some t := ⟨_, List.getElem?_eq_getElem hlt⟩
      obtain ⟨a, c, e, hc⟩ := id hA.row
      injection e with e1 _ e3
      subst e1 e3
      obtain ⟨gr, rfl, hcell, hgr⟩ := hc i v n ht
      clear hc
      have hgv : ∀ q, v.ownBlock = some q → gr ≠ q := fun q e e2 => hgr ⟨i, v, n, ht, by rw [e2]; exact e⟩
      have hsz := HT.out.sz i v n ht
      have HA : Hid (Q1 w wr (.slice (some ⟨gr, 0, none⟩) T.length cv) T i ∧ T[i]? = some (v, n)) := ⟨hA, ht⟩
      obtain ⟨L0, hl0, hw0, _⟩ := hA.all i v n ht
      have hP0 : Q1i wr wr v (mkI i) n 0 := ⟨Keeps.refl _ _, L0, hl0, fun j hj => absurd hj (Nat.not_lt_zero _), hw0⟩
      obtain ⟨ta, tc, hvf⟩ := hw0.form
      rw [hl0] at hvf
      have hcell' : wr.cell? ⟨gr, i, none⟩ = some (.slice ta n tc) := by rw [hcell, hvf]
      clear hA ht hcell hl0 hw0
      obtain ⟨W1, hW1⟩ : ∃ Z, Z = wr := ⟨_, rfl⟩
      subst hW1
      have HGV := hid hgv
      have HVF := hid hvf
      clear hgv hvf
      go_wp2_with fail
      go_loopw [4] (fun k wr' => ∃ m : Nat, m ≤ n ∧ k = .int .i64 m ∧ Q1i W1 wr' v (mkI i) n m) (fun k _ => n - (intOf k).toNat)
      case atStart => exact ⟨0, by omega, rfl, hP0⟩
      case round =>
        obtain ⟨m, hm, rfl, hP⟩ := hrel
        clear hP0
        have hc1 : wr.cell? ⟨gr, i, none⟩ = some (.slice ta n tc) := (World.cell?_of_block (hP.kp.block gr (World.block_lt_of_cell? _ _ hcell') (fun e => HGV.out gr e rfl))).trans hcell'
        by_cases hmt : m < n
        · have hmt' : (m : Int) < (n : Int) := by omega
          obtain ⟨L', e1, _, e3⟩ := hP.wr
          obtain ⟨g, e4, e5⟩ := wr_cell e3 (i := m) (by omega)
          rcases e3.2 with ⟨_, e⟩ | ⟨g', cap, cur, e, _, hb, _⟩
          · omega
          have hgg : g' = g := by rw [e] at e4; exact Option.some.inj e4
          subst hgg
          have hf := frozen_of_block hb m
          have HP2 := hid (hP.put hmt e4)
          rw [HVF.out] at e
          injection e with e6 _ _
          subst e6
          clear hP e1 e3 e4 hb
          go_wp2_with fail
          exact ⟨⟨m + 1, by omega, by go_num, HP2.out⟩, by simp [intOf]; omega⟩
        · have hmt' : ¬ (m : Int) < (n : Int) := by omega
          obtain rfl : m = n := by omega
          have HA2 := hid (HA.out.1.next HT.out HA.out.2 hP)
          clear HA hP HVF HGV
          go_wp2_with fail
          go_roundw
          case rel => exact ⟨i + 1, by omega, by go_num, HA2.out⟩
          case measure => simp [intOf]; omega
    · have hlt' : ¬ (i : Int) < (T.length : Int) := by omega
      obtain rfl : i = T.length := by omega
      obtain ⟨W2, hW2⟩ : ∃ Z, Z = wr := ⟨_, rfl⟩
      subst hW2
      have HQ2 := hid hA.two
      go_wp2_with fail
      go_loopw [5, 6] (fun lv i wr => ∃ (k : Nat) (H : List Value), k = H.length ∧ i = .int .i64 k ∧ Q2 W2 wr T lv H) (fun _ i _ => T.length - (intOf i).toNat)
      case atStart => exact ⟨0, [], rfl, rfl, HQ2.out⟩
      case round =>
        clear HQ2
        obtain ⟨i, H, hiH, rfl, hP⟩ := hrel
        have hiT : i ≤ T.length := by have := hP.le; omega
        have HH : Hid (i = H.length ∧ Q2 W2 wr T u5 H) := ⟨hiH, hP⟩
        have HA : Hid (Q1 w W2 (.slice av T.length cv) T T.length) := hA
        by_cases hlt : i < T.length
        · have hlt' : (i : Int) < (T.length : Int) := by omega
          obtain ⟨⟨v, n⟩, ht⟩ : ∃ t, T[i]? = some t := ⟨_, List.getElem?_eq_getElem hlt⟩
          obtain ⟨a, c, e, hc⟩ := id (hA.row.keeps hP.kp (fun _ e => e))
          injection e with e1 _ e3
          subst e1 e3
          obtain ⟨gr, rfl, hcell, hgr⟩ := hc i v n ht
          clear hc
          have hsz := HT.out.sz i v n ht
          have hg0 : Gq wr wr v v (mkI i) n 0 := by
            have p := hP.start (v := v) (n := n) (by rw [← hiH]; exact ht)
            rw [← hiH] at p
            exact p
          obtain ⟨ta, tc, hvf⟩ := hg0.wr.form
          rw [List.length_replicate, Nat.add_zero] at hvf
          rw [hvf] at hcell
          have HVF := hid hvf
          have HTT := hid ht
          clear hP hA hiH hvf ht
          obtain ⟨W3, hW3⟩ : ∃ Z, Z = wr := ⟨_, rfl⟩
          subst hW3
          go_wp2_with fail
          go_loopw [7, 8] (fun mv k wr => ∃ j : Nat, j ≤ 20 ∧ k = .int .i64 j ∧ Gq W3 wr v mv (mkI i) n j) (fun _ k _ => 20 - (intOf k).toNat)
          case atStart => exact ⟨0, by omega, rfl, by rw [← HVF.out]; exact hg0⟩
          case round =>
            obtain ⟨j, hn, rfl, hG⟩ := hrel
            clear hg0 hcell
            by_cases hnl : j < 20
            · have hnl' : (j : Int) < 20 := by omega
              obtain ⟨mv', X', HR, hG'⟩ := hG.more (by omega)
              have HG := hid hG'
              clear hG hG'
              unfold mkI at HR
              go_wp2_with (at_builtin; refine wpList_append_run rfl _ _ 36 rfl rfl rfl HR.out ?_; clear HR)
              exact ⟨⟨j + 1, by omega, by go_num, HG.out⟩, by simp [intOf]; omega⟩
            · have hnl' : ¬ (j : Int) < 20 := by omega
              obtain rfl : j = 20 := by omega
              obtain ⟨hiH, hP⟩ := HH.out
              subst hiH
              obtain ⟨ma, mc, hmf⟩ := hG.wr.form
              rw [List.length_replicate] at hmf
              obtain ⟨lv', X', HR, hP'⟩ := hP.more HT.out HTT.out hG
              have HP := hid hP'
              subst hmf
              clear hP hP' hG
              go_wp2_with (at_builtin; refine wpList_append_run rfl _ _ 93 rfl rfl rfl HR.out ?_; clear HR)
              go_roundw
              case rel => exact ⟨H.length + 1, _, by simp, by go_num, HP.out⟩
              case measure => simp [intOf]; omega
        · have hlt' : ¬ (i : Int) < (T.length : Int) := by omega
          obtain rfl : i = T.length := by omega
          obtain ⟨W4, hW4⟩ : ∃ Z, Z = wr := ⟨_, rfl⟩
          subst hW4
          clear hP hA
          go_wp2_with fail
          go_loopw [9] (fun i wr => ∃ k : Nat, k ≤ T.length ∧ i = .int .i64 k ∧ wr = W4) (fun i _ => T.length - (intOf i).toNat)
          case atStart => exact ⟨0, by omega, rfl, rfl⟩
          case round =>
            obtain ⟨i, hi, rfl, rfl⟩ := hrel
            by_cases hlt : i < T.length
            · have hlt' : (i : Int) < (T.length : Int) := by omega
              obtain ⟨⟨v, n⟩, ht⟩ : ∃ t, T[i]? = some t := ⟨_, List.getElem?_eq_getElem hlt⟩
              obtain ⟨hTH, hP⟩ := HH.out
              obtain ⟨a, c, e, hc⟩ := id (HA.out.row.keeps hP.kp (fun _ e => e))
              injection e with e1 _ e3
              subst e1 e3
              obtain ⟨gr, rfl, hcell, hgr⟩ := hc i v n ht
              clear hc
              obtain ⟨m, hHi, hcl, hmw, _⟩ := hP.each i v n (by omega) ht
              have hrow := hP.row
              rcases id hrow.2 with ⟨_, e⟩ | ⟨lg, lc, lcur, hlv, _⟩
              · omega
              subst hlv
              have hcl0 : wr.cell? ⟨lg, i, none⟩ = some m := by rw [World.ownsRow.cellAt hrow i (by omega)]; exact hHi
              obtain ⟨ma, mc, hmf⟩ := hmw.form
              rw [List.length_replicate] at hmf
              have hm1 : ∀ k, k < n + 20 → ∃ g, ma = some ⟨g, 0, none⟩ ∧ wr.cell? ⟨g, k, none⟩ = some (.int .u64 (1099511627776 + (i : Int))) := fun k hk => by
                obtain ⟨a', c', e, hc⟩ := Cl.of hmw
                rw [hmf] at e
                injection e with e1 _ _
                subst e1
                exact hc k hk
              obtain ⟨va, vc, hvf, hl2⟩ := hcl
              unfold mkI at hl2
              rw [hvf] at hcell
              rw [hmf] at hcl0
              have hsz := HT.out.sz i v n ht
              have hiHl : i < H.length := by omega
              clear hP hHi hmw hTH hrow HA HH ht
              go_wp2_with fail
              go_loopw [10] (fun k wr' => ∃ j : Nat, j ≤ n + 20 ∧ k = .int .i64 j ∧ wr' = wr) (fun k _ => n + 20 - (intOf k).toNat)
              case atStart => exact ⟨0, by omega, rfl, rfl⟩
              case round =>
                obtain ⟨j, hn, rfl, rfl⟩ := hrel
                by_cases hnl : j < n + 20
                · have hnl' : (j : Int) < (n : Int) + 20 := by omega
                  obtain ⟨mg, rfl, hmk⟩ := hm1 j hnl
                  by_cases hnt : j < n
                  · have hnt' : (j : Int) < (n : Int) := by omega
                    obtain ⟨g, rfl, hlk⟩ := hl2 j hnt
                    clear hm1 hl2
                    go_wp2_with fail
                    exact ⟨⟨j + 1, by omega, by go_num, trivial⟩, by simp [intOf]; omega⟩
                  · have hnt' : ¬ (j : Int) < (n : Int) := by omega
                    clear hm1 hl2
                    go_wp2_with fail
                    exact ⟨⟨j + 1, by omega, by go_num, trivial⟩, by simp [intOf]; omega⟩
                · have hnl' : ¬ (j : Int) < (n : Int) + 20 := by omega
                  obtain rfl : j = n + 20 := by omega
                  clear hm1 hl2
                  go_wp2_with fail
                  go_roundw
                  case rel => exact ⟨i + 1, by omega, by go_num, trivial⟩
                  case measure => simp [intOf]; omega
            · have hlt' : ¬ (i : Int) < (T.length : Int) := by omega
              have HK : Hid (Keeps T.on w wr) := HA.out.kp.trans HH.out.2.kp
              clear HA HH
              go_wp2_with fail
              go_ret
              exact ⟨rfl, HK.out⟩
end Go.Proofs.Ytadbplbifjeghaa
