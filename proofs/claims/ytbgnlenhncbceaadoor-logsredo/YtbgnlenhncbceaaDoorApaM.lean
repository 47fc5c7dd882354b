/-
  No statement of the seat is proved here. (Several texts in one: ApaA, ApaB, DuoB, DuoC.)
-/
import Derived.Test.YtbgnlenhncbceaaDoorOverM
import Derived.Test.YtbgnlenhncbceaaDoorRefM
import Derived.Deep.Upon
import Derived.Test.YtbgnlenhncbceaaDoorRdoM

/-
  Lists that were told, each in memory of its own. No statement of the seat is proved here.
-/
namespace Go.Proofs.YtbgnlenhncbceaaDoor
open Go.RowKit Go.Shelf
attribute [local go_sem] Oper.semAt_some

/-- A list that was told: where it lies, how long it is. -/
abbrev Tld := Option Nat × Nat
def tv (t : Tld) : Value := match t.1 with | none => .slice none 0 0 | some g => .slice (some ⟨g, 0, none⟩) t.2 t.2
def markI (i : Nat) : Int := 1099511627776 + (i : Int)

structure Tl (X : World) (T : List Tld) (W : Nat → List Int) : Prop where
  blk : ∀ (i g n : Nat), T[i]? = some (some g, n) → X.heap[g]? = some (.cells (u64s (W i)) 38 (0, 0)) ∧ (W i).length = n
  nil : ∀ (i n : Nat), T[i]? = some (none, n) → n = 0
  dist : ∀ (i j g n m : Nat), T[i]? = some (some g, n) → T[j]? = some (some g, m) → i = j
  sz : ∀ (i g n : Nat), T[i]? = some (some g, n) → n * 8 ≤ 140737488351232
/-- Their blocks. -/
def TOn (T : List Tld) (q : Nat) : Prop := ∃ (i n : Nat), T[i]? = some (some q, n)
/-- The list of them. -/
def TRow (X : World) (v : Value) (T : List Tld) : Prop := ∃ a c, v = .slice a T.length c ∧ ∀ i t, T[i]? = some t → ∃ g, a = some ⟨g, 0, none⟩ ∧ X.cell? ⟨g, i, none⟩ = some (tv t) ∧ ¬ TOn T g

section
variable {X X' : World} {T : List Tld} {W : Nat → List Int} {v : Value}
theorem Tl.kept {S : Nat → Prop} (h : Tl X T W) (k : Keeps S X X') (hS : ∀ q, TOn T q → ¬ S q) : Tl X' T W :=
  ⟨fun i g n e => ⟨k.old (h.blk i g n e).1 (hS g ⟨i, n, e⟩), (h.blk i g n e).2⟩, h.nil, h.dist, h.sz⟩
theorem TRow.kept {S : Nat → Prop} (h : TRow X v T) (k : Keeps S X X') (hS : ∀ q, S q → TOn T q) : TRow X' v T := by
  obtain ⟨a, c, e, hc⟩ := h
  refine ⟨a, c, e, fun i t ht => ?_⟩
  obtain ⟨g, q1, q2, q3⟩ := hc i t ht
  exact ⟨g, q1, (World.cell?_of_block (k.block g (World.block_lt_of_cell? _ _ q2) (fun e => q3 (hS g e)))).trans q2, q3⟩
/-- One of them is written over. -/
theorem Tl.put (h : Tl X T W) {i g n : Nat} (ht : T[i]? = some (some g, n)) {ws : List Int} (hb : X'.heap[g]? = some (.cells (u64s ws) 38 (0, 0))) (hl : ws.length = n) (k : Keeps (fun q => q = g) X X') : Tl X' T (fun j => if j = i then ws else W j) := by
  refine ⟨fun j q m e => ?_, h.nil, h.dist, h.sz⟩
  by_cases hj : j = i
  · subst hj
    rw [ht] at e
    cases e
    simp [hb, hl]
  · have hq : q ≠ g := fun e2 => hj (h.dist j i q m n e (by rw [e2]; exact ht))
    simp only [if_neg hj]
    exact ⟨k.old (h.blk j q m e).1 hq, (h.blk j q m e).2⟩
end

/-- The first loop: all are written over. -/
structure Ap1 (w X : World) (v : Value) (T : List Tld) (W : Nat → List Int) (i : Nat) : Prop where
  tl : Tl X T W
  row : TRow X v T
  done : ∀ (j g n : Nat), j < i → T[j]? = some (some g, n) → W j = List.replicate n (markI j)
  kp : Keeps (TOn T) w X

theorem u64s_cell {X : World} {g j : Nat} {ws : List Int} (h : X.heap[g]? = some (.cells (u64s ws) 38 (0, 0))) (hj : j < ws.length) : X.cell? ⟨g, j, none⟩ = some (.int .u64 (oat ws j)) := by
  rw [cell_of_block h, u64s_get ws j hj]

theorem mark_val (i : Nat) (hi : i < 2199023255553) : IntKind.u64.wrap (1099511627776 + IntKind.u64.wrap (i : Int)) = markI i := by
  unfold markI
  simp [IntKind.wrap, IntKind.signed, IntKind.bits]
  omega


theorem info_list : (Tryd.prog.info? 39).map (fun i => (i.zero, i.size, i.bytes)) = some (some (.slice none 0 0), 1, 24) := by kernel_rfl
theorem wordsV_more (m : Nat) (x : Int) : wordsV (List.replicate (m + 1) x) = wordsV (List.replicate m x) ++ [.int .u64 x] := by
  simp [wordsV, List.replicate_succ', List.map_append]
theorem new_cell (X : World) (u : Value) (t : TypeId) : ∀ (j : Nat) (q : Value), [u][j]? = some q → (X.alloc (.cells #[u] t)).cell? ((⟨X.heap.size, 0, none⟩ : Addr).add j) = some q := fun j q hj => by
  rw [addr_add, Nat.zero_add, cell_of_block (alloc_block X _)]
  simpa using hj

/-- One of them, grown by k marks. -/
structure Gr (Wi X : World) (t : Tld) (i k : Nat) (mv : Value) : Prop where
  row : Row X 38 1 mv (t.2 + k) (wordsV (List.replicate (t.2 + k) (markI i)))
  zero : k = 0 → mv = tv t
  own : 0 < k → ∀ g, mv.ownBlock = some g → Wi.heap.size ≤ g
  kp : Keeps (fun _ => False) Wi X
theorem Gr.more {Wi X : World} {t : Tld} {i k : Nat} {mv : Value} (h : Gr Wi X t i k mv) (hs : (t.2 + k + 1) * 8 ≤ 140737488355328) :
    ∃ mv' X', Hid ((Builtin.append_ #[39, 39] 39 #[mv, .slice (some ⟨X.heap.size, 0, none⟩) 1 1]).run Tryd.prog (X.alloc (.cells #[.int .u64 (markI i)] 38)) = .ok mv' X') ∧ Gr Wi X' t i (k + 1) mv' := by
  obtain ⟨i0, hi0, hz0, hz1, hzb⟩ := info_parts info_word
  have hka : Keeps (fun _ => False) X (X.alloc (.cells #[.int .u64 (markI i)] 38)) := (Keeps.refl _ X).alloc _
  have hrow := h.row.kept hka (fun _ _ f => f)
  obtain ⟨g, cap, w', q1, q2, q3⟩ := run_append_row (P := Tryd.prog) _ 39 39 38 i0 _ 1 8 Tryd.underlying39 hi0 hz0 hz1 hzb rfl hrow ⟨X.heap.size, 0, none⟩ 1 1 (by decide) [.int .u64 (markI i)] rfl (new_cell X _ _) (by simp [Value.oneCell']) (by unfold maxLen; omega) hs
  have hsz : (X.alloc (.cells #[.int .u64 (markI i)] 38)).heap.size = X.heap.size + 1 := by simp
  have hkz := h.kp.size
  refine ⟨_, w', q1, ?_⟩
  rcases q3 with ⟨e1, e2⟩ | ⟨e1, ⟨c0, e2, e3, _⟩, _, e4⟩
  · refine ⟨?_, fun e => by omega, fun _ q hq => ?_, (h.kp.trans hka).trans e2⟩
    · rw [← Nat.add_assoc, wordsV_more]; exact q2
    · simp [Value.ownBlock] at hq
      omega
  · have hk0 : 0 < k := by
      apply Classical.byContradiction
      intro hk
      have hz := h.zero (by omega)
      rw [hz] at e2
      obtain ⟨tg, tn⟩ := t
      cases tg with
      | none => cases e2
      | some q =>
        injection e2 with _ e5 e6
        simp only at e3 e5 e6
        omega
    have hg := h.own hk0 g e1
    refine ⟨?_, fun e => by omega, fun _ q hq => ?_, ?_⟩
    · rw [← Nat.add_assoc, wordsV_more]; exact q2
    · simp [Value.ownBlock] at hq
      omega
    · exact ⟨e4.os.trans (h.kp.trans hka).os, e4.tape.trans (h.kp.trans hka).tape, e4.output.trans (h.kp.trans hka).output, Nat.le_trans (h.kp.trans hka).size e4.size, fun q hq hf => (e4.block q (by have := (h.kp.trans hka).size; omega) (by omega)).trans ((h.kp.trans hka).block q hq hf)⟩

/-- The second loop: the lists that were grown. -/
structure Ap2 (W2 X : World) (T : List Tld) (lv : Value) (H : List Value) : Prop where
  kp : Keeps (fun _ => False) W2 X
  row : Row X 39 1 lv H.length H
  own : ∀ g, lv.ownBlock = some g → W2.heap.size ≤ g
  le : H.length ≤ T.length
  each : ∀ (j : Nat) (t : Tld), j < H.length → T[j]? = some t → ∃ g cap, H[j]? = some (.slice (some ⟨g, 0, none⟩) (t.2 + 20) cap) ∧ Row X 38 1 (.slice (some ⟨g, 0, none⟩) (t.2 + 20) cap) (t.2 + 20) (wordsV (List.replicate (t.2 + 20) (markI j)))
theorem Ap2.more {W2 X X1 : World} {T : List Tld} {lv mv : Value} {H : List Value} (h : Ap2 W2 X T lv H) {t : Tld} (ht : T[H.length]? = some t) (hg : Gr X X1 t H.length 20 mv) (hT : T.length < 2199023255553) :
    ∃ lv' X', Hid ((Builtin.append_ #[59, 59] 59 #[lv, .slice (some ⟨X1.heap.size, 0, none⟩) 1 1]).run Tryd.prog (X1.alloc (.cells #[mv] 39)) = .ok lv' X') ∧ Ap2 W2 X' T lv' (H ++ [mv]) := by
  obtain ⟨i0, hi0, hz0, hz1, hzb⟩ := info_parts info_list
  have hlt : H.length < T.length := (List.getElem?_eq_some_iff.1 ht).1
  obtain ⟨ga, gc, hmv, _, _⟩ := hg.row.form
  have hka : Keeps (fun _ => False) X (X1.alloc (.cells #[mv] 39)) := hg.kp.alloc _
  have hrow := h.row.kept hka (fun _ _ f => f)
  obtain ⟨g, cap, w', q1, q2, q3⟩ := run_append_row (P := Tryd.prog) _ 59 59 39 i0 _ 1 24 Tryd.underlying59 hi0 hz0 hz1 hzb rfl hrow ⟨X1.heap.size, 0, none⟩ 1 1 (by decide) [mv] rfl (new_cell X1 _ _) (by rw [hmv]; simp [Value.oneCell']) (by unfold maxLen; omega) (by omega)
  have hkz := h.kp.size
  have hkz2 := hka.size
  have hgown : w'.heap.size ≥ 0 := Nat.zero_le _
  have kk : Keeps (fun q => lv.ownBlock = some q) (X1.alloc (.cells #[mv] 39)) w' := by
    rcases q3 with ⟨_, e2⟩ | ⟨e1, _, _, e4⟩
    · exact e2.mono (fun _ _ f => f.elim)
    · exact e4.mono (fun q _ e => by subst e; exact e1)
  have notlv : ∀ (Z : World) (m n : Nat) (q cap : Nat) (xs : List Value), Row Z 38 1 (.slice (some ⟨q, 0, none⟩) m cap) n xs → Keeps (fun _ => False) X Z → ¬ lv.ownBlock = some q := fun Z m n q cap xs hr hk e => by
    obtain ⟨c1, hc1⟩ := hr.kind (k := q) rfl
    obtain ⟨c2, hc2⟩ := (h.row.kept hk (fun _ _ f => f)).kind e
    exact absurd (kind_ne hc1 hc2) (by decide)
  refine ⟨_, w', q1, ⟨?_, ?_, fun q hq => ?_, by simp; omega, fun j t' hj ht' => ?_⟩⟩
  · exact ⟨kk.os.trans (h.kp.trans hka).os, kk.tape.trans (h.kp.trans hka).tape, kk.output.trans (h.kp.trans hka).output, Nat.le_trans (h.kp.trans hka).size kk.size, fun q hq hf => (kk.block q (by have := (h.kp.trans hka).size; omega) (fun e => by have := h.own q e; omega)).trans ((h.kp.trans hka).block q hq hf)⟩
  · rw [List.length_append]
    exact q2
  · simp [Value.ownBlock] at hq
    subst hq
    rcases q3 with ⟨e1, _⟩ | ⟨e1, _⟩
    · omega
    · exact h.own _ e1
  · by_cases hjl : j < H.length
    · obtain ⟨q, cp, r1, r2⟩ := h.each j t' hjl ht'
      refine ⟨q, cp, by rw [List.getElem?_append_left hjl]; exact r1, (r2.kept hka (fun _ _ f => f)).kept kk (fun q' hq' => ?_)⟩
      have hqq : q' = q := by simp [Value.ownBlock] at hq'; exact hq'.symm
      rw [hqq]
      exact notlv X _ _ q cp _ r2 (Keeps.refl _ _)
    · obtain rfl : j = H.length := by simp at hj; omega
      rw [ht] at ht'
      cases ht'
      obtain ⟨q, cp, rfl, _, _⟩ := hg.row.at (by omega)
      refine ⟨q, cp, by simp, (hg.row.kept ((Keeps.refl (fun _ => False) X1).alloc _) (fun _ _ f => f)).kept kk (fun q' hq' => ?_)⟩
      have hqq : q' = q := by simp [Value.ownBlock] at hq'; exact hq'.symm
      rw [hqq]
      exact notlv X1 _ _ q cp _ hg.row hg.kp
end Go.Proofs.YtbgnlenhncbceaaDoor


/-
  Lists that were told are apart. No statement of the seat is proved here.
-/
namespace Go.Proofs.YtbgnlenhncbceaaDoor
open Go.RowKit Go.Shelf
attribute [local go_sem] Oper.semAt_some

set_option maxRecDepth 100000 in
set_option maxHeartbeats 4000000 in
theorem apart_any (v : Value) (T : List Tld) (W : Nat → List Int) (w : World) (h : Tl w T W) (hr : TRow w v T) (hT : T.length < 2199023255553) :
    Calls Tryd.prog 25 #[v] w fun e w' => e = .returned (.bool true) ∧ Keeps (TOn T) w w' := by
  obtain ⟨av, cv, hv, hcv⟩ := id hr
  subst hv
  clear hcv
  go_enter Tryd.func25, Tryd.ntmps25
  go_wp2_with fail
  go_loopw [3] (fun i wr => ∃ (k : Nat) (V : Nat → List Int), k ≤ T.length ∧ i = .int .i64 k ∧ Ap1 w wr (.slice av T.length cv) T V k) (fun i _ => T.length - (intOf i).toNat)
  case atStart => exact ⟨0, W, by omega, rfl, ⟨h, hr, fun j g n hj => absurd hj (by omega), Keeps.refl _ _⟩⟩
  case round =>
    clear h hr
    obtain ⟨i, V, hi, rfl, hA⟩ := hrel
    by_cases hlt : i < T.length
    · have hlt' : (i : Int) < (T.length : Int) := by omega
      obtain ⟨⟨tg, tn⟩, ht⟩ : ∃ t, T[i]? = some t := ⟨_, List.getElem?_eq_getElem hlt⟩
      obtain ⟨a, c, e, hc⟩ := id hA.row
      injection e with e1 _ e3
      subst e1 e3
      obtain ⟨gr, rfl, hcell, hgr⟩ := hc i _ ht
      clear hc
      cases tg with
      | none =>
        obtain rfl := hA.tl.nil i tn ht
        have hcell' : wr.cell? ⟨gr, i, none⟩ = some (.slice none 0 0) := hcell
        clear hcell
        have HA : Hid (Ap1 w wr (.slice (some ⟨gr, 0, none⟩) T.length cv) T V (i + 1)) := ⟨hA.tl, hA.row, (fun j q n hj e => by
          rcases Nat.lt_succ_iff_lt_or_eq.1 hj with hj | rfl
          · exact hA.done j q n hj e
          · rw [ht] at e
            cases e), hA.kp⟩
        clear hA
        go_wp2_with fail
        go_loopw [4] (fun k wr' => k = .int .i64 0 ∧ wr' = wr) (fun _ _ => 0)
        case atStart => exact ⟨rfl, rfl⟩
        case round =>
          obtain ⟨rfl, rfl⟩ := hrel
          go_wp2_with fail
          go_roundw
          case rel => exact ⟨i + 1, V, by omega, by go_num, HA.out⟩
          case measure => simp [intOf]; omega
      | some g =>
        have hcell' : wr.cell? ⟨gr, i, none⟩ = some (.slice (some ⟨g, 0, none⟩) tn tn) := hcell
        clear hcell
        obtain ⟨hb0, hl0⟩ := hA.tl.blk i g tn ht
        have hsz := hA.tl.sz i g tn ht
        have hgg : gr ≠ g := fun e => hgr ⟨i, tn, by rw [e]; exact ht⟩
        have HA : Hid (Ap1 w wr (.slice (some ⟨gr, 0, none⟩) T.length cv) T V i ∧ T[i]? = some (some g, tn)) := ⟨hA, ht⟩
        clear hA ht
        obtain ⟨W1, hW1⟩ : ∃ Z, Z = wr := ⟨_, rfl⟩
        subst hW1
        go_wp2_with fail
        go_loopw [4] (fun k wr' => ∃ (m : Nat) (ws : List Int), m ≤ tn ∧ k = .int .i64 m ∧ wr'.heap[g]? = some (.cells (u64s ws) 38 (0, 0)) ∧ ws.length = tn ∧ (∀ j, j < m → oat ws j = markI i) ∧ Keeps (fun q => q = g) W1 wr') (fun k _ => tn - (intOf k).toNat)
        case atStart => exact ⟨0, V i, by omega, rfl, hb0, hl0, fun j hj => absurd hj (by omega), Keeps.refl _ _⟩
        case round =>
          obtain ⟨m, ws, hm, rfl, hb, hl, hd, hk⟩ := hrel
          have hc1 : wr.cell? ⟨gr, i, none⟩ = some (.slice (some ⟨g, 0, none⟩) tn tn) := (World.cell?_of_block (hk.block gr (World.block_lt_of_cell? _ _ hcell') hgg)).trans hcell'
          by_cases hmt : m < tn
          · have hmt' : (m : Int) < (tn : Int) := by omega
            have hc2 := u64s_cell hb (j := m) (by omega)
            have hf2 := frozen_of_block hb m
            have hb2 : (wr.setCell ⟨g, m, none⟩ (.int .u64 (markI i))).heap[g]? = some (.cells (u64s (ws.set m (markI i))) 38 (0, 0)) := by rw [block_set hb, u64s_set]
            have HB2 : Hid (∃ ws' : List Int, (wr.setCell ⟨g, m, none⟩ (.int .u64 (markI i))).heap[g]? = some (.cells (u64s ws') 38 (0, 0)) ∧ ws'.length = tn ∧ (∀ j, j < m + 1 → oat ws' j = markI i) ∧ Keeps (fun q => q = g) W1 (wr.setCell ⟨g, m, none⟩ (.int .u64 (markI i)))) := by
              refine ⟨_, hb2, by rw [List.length_set]; exact hl, fun j hj => ?_, hk.setCell (p := ⟨g, m, none⟩) (.inr rfl) _⟩
              unfold oat
              rw [List.getElem?_set]
              by_cases e : m = j
              · subst e
                rw [if_pos rfl, if_pos (by omega)]
                rfl
              · rw [if_neg e]
                exact hd j (by omega)
            clear hb hl hd hk hb2
            go_wp2_with fail
            obtain ⟨ws', r1, r2, r3, r4⟩ := HB2.out
            exact ⟨⟨m + 1, ws', by omega, by go_num, r1, r2, r3, r4⟩, by simp [intOf]; omega⟩
          · have hmt' : ¬ (m : Int) < (tn : Int) := by omega
            obtain rfl : m = tn := by omega
            have HA2 : Hid (Ap1 w wr (.slice (some ⟨gr, 0, none⟩) T.length cv) T (fun j => if j = i then ws else V j) (i + 1)) := by
              obtain ⟨hA, ht⟩ := HA.out
              refine ⟨hA.tl.put ht hb hl hk, hA.row.kept hk (fun q e => by rw [e]; exact ⟨i, m, ht⟩), fun j q n hj e => ?_, hA.kp.trans (hk.mono (fun q _ e => by rw [e]; exact ⟨i, m, ht⟩))⟩
              by_cases hji : j = i
              · subst hji
                rw [ht] at e
                cases e
                simp only [if_true]
                apply List.ext_getElem?
                intro x
                rw [List.getElem?_replicate]
                split
                · rename_i hx
                  have := hd x hx
                  unfold oat at this
                  rw [List.getElem?_eq_getElem (by omega)] at this ⊢
                  simpa using this
                · rw [List.getElem?_eq_none (by omega)]
              · simp only [if_neg hji]
                exact hA.done j q n (by omega) e
            clear HA hb hl hd hk hb0 hl0
            go_wp2_with fail
            go_roundw
            case rel => exact ⟨i + 1, _, by omega, by go_num, HA2.out⟩
            case measure => simp [intOf]; omega
    · have hlt' : ¬ (i : Int) < (T.length : Int) := by omega
      obtain rfl : i = T.length := by omega
      obtain ⟨W2, hW2⟩ : ∃ Z, Z = wr := ⟨_, rfl⟩
      subst hW2
      go_wp2_with fail
      go_loopw [5, 6] (fun lv i wr => ∃ (k : Nat) (H : List Value), k = H.length ∧ i = .int .i64 k ∧ Ap2 W2 wr T lv H) (fun _ i _ => T.length - (intOf i).toNat)
      case atStart => exact ⟨0, [], rfl, rfl, ⟨Keeps.refl _ _, row_nil _ _ _, fun g hg => by simp [Value.ownBlock] at hg, by simp, fun j t hj => absurd hj (by simp)⟩⟩
      case round =>
        obtain ⟨i, H, hiH, rfl, hP⟩ := hrel
        have hiT : i ≤ T.length := by have := hP.le; omega
        have HH : Hid (i = H.length ∧ Ap2 W2 wr T u5 H) := ⟨hiH, hP⟩
        have HA : Hid (Ap1 w W2 (.slice av T.length cv) T V T.length) := hA
        by_cases hlt : i < T.length
        · have hlt' : (i : Int) < (T.length : Int) := by omega
          obtain ⟨t, ht⟩ : ∃ t, T[i]? = some t := ⟨_, List.getElem?_eq_getElem hlt⟩
          obtain ⟨a, c, e, hc⟩ := id hA.row
          injection e with e1 _ e3
          subst e1 e3
          obtain ⟨gr, rfl, hcell, hgr⟩ := hc i _ ht
          clear hc
          have hcell2 : wr.cell? ⟨gr, i, none⟩ = some (tv t) := (World.cell?_of_block (hP.kp.block gr (World.block_lt_of_cell? _ _ hcell) (fun f => f))).trans hcell
          have hg0 : Gr wr wr t i 0 (tv t) := by
            obtain ⟨tg, tn⟩ := t
            refine ⟨?_, fun _ => rfl, fun h => absurd h (by omega), Keeps.refl _ _⟩
            cases tg with
            | none =>
              obtain rfl := hA.tl.nil i tn ht
              exact row_nil _ _ _
            | some g =>
              obtain ⟨hb, hl⟩ := hA.tl.blk i g tn ht
              have hs := hA.tl.sz i g tn ht
              have hd := hA.done i g tn hlt ht
              rw [hd] at hb
              have hb' := hP.kp.old hb (fun f => f)
              refine ⟨by simp [wordsV], .inr ⟨g, tn, _, rfl, hb', Nat.le_refl _, by unfold maxLen; omega, by simp [u64s, wordsV], by simp [u64s, wordsV]⟩⟩
          have hsz : t.2 * 8 ≤ 140737488351232 := by
            obtain ⟨tg, tn⟩ := t
            cases tg with
            | none => obtain rfl := hA.tl.nil i tn ht; simp
            | some g => exact hA.tl.sz i g tn ht
          clear hP hA hiH hcell
          obtain ⟨W3, hW3⟩ : ∃ Z, Z = wr := ⟨_, rfl⟩
          subst hW3
          go_wp2_with fail
          go_loopw [7, 8] (fun mv k wr => ∃ n : Nat, n ≤ 20 ∧ k = .int .i64 n ∧ Gr W3 wr t i n mv) (fun _ k _ => 20 - (intOf k).toNat)
          case atStart => exact ⟨0, by omega, rfl, hg0⟩
          case round =>
            obtain ⟨n, hn, rfl, hG⟩ := hrel
            clear hg0 hcell2
            by_cases hnl : n < 20
            · have hnl' : (n : Int) < 20 := by omega
              obtain ⟨mv', X', HR, hG'⟩ := hG.more (by omega)
              have HG : Hid (Gr W3 X' t i (n + 1) mv') := hG'
              clear hG hG'
              go_wp2_with (at_builtin; refine wpList_append_run rfl _ _ 39 rfl rfl rfl HR.out ?_; clear HR)
              exact ⟨⟨n + 1, by omega, by go_num, HG.out⟩, by simp [intOf]; omega⟩
            · have hnl' : ¬ (n : Int) < 20 := by omega
              obtain rfl : n = 20 := by omega
              obtain ⟨hiH, hP⟩ := HH.out
              subst hiH
              obtain ⟨mg, mc, rfl, _, _⟩ := hG.row.at (by omega)
              obtain ⟨lv', X', HR, hP'⟩ := hP.more ht hG hT
              have HP : Hid (Ap2 W2 X' T lv' (H ++ [.slice (some ⟨mg, 0, none⟩) (t.2 + 20) mc])) := hP'
              clear hP hP' hG
              go_wp2_with (at_builtin; refine wpList_append_run rfl _ _ 59 rfl rfl rfl HR.out ?_; clear HR)
              go_roundw
              case rel => exact ⟨H.length + 1, _, by simp, by go_num, HP.out⟩
              case measure => simp [intOf]; omega
        · have hlt' : ¬ (i : Int) < (T.length : Int) := by omega
          obtain rfl : i = T.length := by omega
          obtain ⟨W4, hW4⟩ : ∃ Z, Z = wr := ⟨_, rfl⟩
          subst hW4
          clear hP hA
          go_wp2_with fail
          go_loopw [9] (fun i wr => ∃ k : Nat, k ≤ T.length ∧ i = .int .i64 k ∧ wr = W4) (fun i _ => T.length - (intOf i).toNat)
          case atStart => exact ⟨0, by omega, rfl, rfl⟩
          case round =>
            obtain ⟨i, hi, rfl, rfl⟩ := hrel
            by_cases hlt : i < T.length
            · have hlt' : (i : Int) < (T.length : Int) := by omega
              obtain ⟨t, ht⟩ : ∃ t, T[i]? = some t := ⟨_, List.getElem?_eq_getElem hlt⟩
              obtain ⟨hTH, hP⟩ := HH.out
              have hA := HA.out
              obtain ⟨a, c, e, hc⟩ := id hA.row
              injection e with e1 _ e3
              subst e1 e3
              obtain ⟨gr, rfl, hcell, hgr⟩ := hc i _ ht
              clear hc
              have hcell2 : wr.cell? ⟨gr, i, none⟩ = some (tv t) := (World.cell?_of_block (hP.kp.block gr (World.block_lt_of_cell? _ _ hcell) (fun f => f))).trans hcell
              obtain ⟨lg, lc, hlv, hlc, hlm, hlcell, _⟩ := hP.row.at (by omega)
              obtain ⟨mg, mc, hHi, hmrow⟩ := hP.each i t (by omega) ht
              have hcl : wr.cell? ⟨lg, i, none⟩ = some (.slice (some ⟨mg, 0, none⟩) (t.2 + 20) mc) := (hlcell i (by omega)).trans hHi
              obtain ⟨mg', mc', hme, hmc, hmm, hmcell, _⟩ := hmrow.at (by omega)
              injection hme with hme1 _ hme3
              injection hme1 with hme1
              injection hme1 with hme1
              subst hme1 hme3 hlv
              have hm1 : ∀ k, k < t.2 + 20 → wr.cell? ⟨mg, k, none⟩ = some (.int .u64 (1099511627776 + (i : Int))) := fun k hk => by
                rw [hmcell k (by omega)]
                simp [wordsV, hk, markI]
              have hl1 : ∃ a, tv t = .slice a t.2 t.2 ∧ ∀ k, k < t.2 → ∃ g, a = some ⟨g, 0, none⟩ ∧ wr.cell? ⟨g, k, none⟩ = some (.int .u64 (1099511627776 + (i : Int))) := by
                obtain ⟨tg, tn⟩ := t
                cases tg with
                | none =>
                  obtain rfl := hA.tl.nil i tn ht
                  exact ⟨none, rfl, fun k hk => absurd hk (by simp)⟩
                | some g =>
                  obtain ⟨hb, hl⟩ := hA.tl.blk i g tn ht
                  have hd := hA.done i g tn hlt ht
                  rw [hd] at hb
                  have hb' := hP.kp.old hb (fun f => f)
                  refine ⟨_, rfl, fun k hk => ⟨g, rfl, ?_⟩⟩
                  have hk' : k < tn := hk
                  rw [u64s_cell hb' (by simpa using hk')]
                  simp [oat, hk', markI]
              obtain ⟨ta, hta, hl2⟩ := hl1
              rw [hta] at hcell2
              have hsz : t.2 * 8 ≤ 140737488351232 := by
                obtain ⟨tg, tn⟩ := t
                cases tg with
                | none => obtain rfl := hA.tl.nil i tn ht; simp
                | some g => exact hA.tl.sz i g tn ht
              have hiHl : i < H.length := by omega
              clear hP hA hcell hTH hHi hmrow hlcell hmcell hta HA HH hiH
              generalize t.2 = tn at *
              go_wp2_with fail
              go_loopw [10] (fun k wr' => ∃ n : Nat, n ≤ tn + 20 ∧ k = .int .i64 n ∧ wr' = wr) (fun k _ => tn + 20 - (intOf k).toNat)
              case atStart => exact ⟨0, by omega, rfl, rfl⟩
              case round =>
                obtain ⟨n, hn, rfl, rfl⟩ := hrel
                by_cases hnl : n < tn + 20
                · have hnl' : (n : Int) < (tn : Int) + 20 := by omega
                  have hmk := hm1 n hnl
                  by_cases hnt : n < tn
                  · have hnt' : (n : Int) < (tn : Int) := by omega
                    obtain ⟨g, rfl, hlk⟩ := hl2 n hnt
                    clear hm1 hl2
                    go_wp2_with fail
                    exact ⟨⟨n + 1, by omega, by go_num, trivial⟩, by simp [intOf]; omega⟩
                  · have hnt' : ¬ (n : Int) < (tn : Int) := by omega
                    clear hm1 hl2
                    go_wp2_with fail
                    exact ⟨⟨n + 1, by omega, by go_num, trivial⟩, by simp [intOf]; omega⟩
                · have hnl' : ¬ (n : Int) < (tn : Int) + 20 := by omega
                  obtain rfl : n = tn + 20 := by omega
                  clear hm1 hl2
                  go_wp2_with fail
                  go_roundw
                  case rel => exact ⟨i + 1, by omega, by go_num, trivial⟩
                  case measure => simp [intOf]; omega
            · have hlt' : ¬ (i : Int) < (T.length : Int) := by omega
              have HK : Hid (Keeps (TOn T) w wr) := HA.out.kp.trans (HH.out.2.kp.mono (fun _ _ f => f.elim))
              clear HA HH
              go_wp2_with fail
              go_ret
              exact ⟨rfl, HK.out⟩
end Go.Proofs.YtbgnlenhncbceaaDoor


/-
  Two redo logs and the document's two, the two arrays that name them, and the lists that were told. No statement of the seat is proved here.
-/
namespace Go.Proofs.YtbgnlenhncbceaaDoor
open Go.RowKit Go.Shelf

/-- A log and the document's. -/
structure Sd where
  r : Nat
  b : Nat
  L : List (Int × Int)
  Ow : Nat → Prop
  Of : Nat → Prop
def Sd.own (s : Sd) (q : Nat) : Prop := s.Ow q ∨ s.Of q
def obO (f : Nat → Sd) : Obj := .cells #[.pointer (some ⟨(f 0).r, 0, none⟩), .pointer (some ⟨(f 1).r, 0, none⟩)] 58 (0, 0)
def obR (f : Nat → Sd) : Obj := .cells #[.pointer (some ⟨(f 0).b, 0, none⟩), .pointer (some ⟨(f 1).b, 0, none⟩)] 37 (0, 0)
/-- A function turned at one place. -/
def upg (f : Nat → Sd) (i : Nat) (v : Sd) : Nat → Sd := fun j => if j = i then v else f j
theorem upg_same (f : Nat → Sd) (i : Nat) (v : Sd) : upg f i v i = v := if_pos rfl
theorem upg_other (f : Nat → Sd) {i j : Nat} (v : Sd) (h : j ≠ i) : upg f i v j = f j := if_neg h

/-- The state of a play. -/
structure Stt (w X : World) (most Ao Ar k mt n : Nat) (f : Nat → Sd) (tl : Value) (T : List Tld) (W : Nat → List Int) : Prop where
  pr : ∀ i, i < 2 → Pr X (f i).r (f i).b most (f i).L (f i).Ow (f i).Of
  ap : ∀ q, (f 0).own q → ¬ (f 1).own q
  out : ∀ i q, i < 2 → (f i).own q → q ≠ Ao ∧ q ≠ Ar ∧ q ≠ n ∧ ¬ TOn T q ∧ ¬ tl.ownBlock = some q ∧ w.heap.size ≤ q
  bo : X.heap[Ao]? = some (obO f)
  br : X.heap[Ar]? = some (obR f)
  ne : Ao ≠ Ar
  no : w.heap.size ≤ Ao
  nr : w.heap.size ≤ Ar
  kp : Keeps (fun _ => False) w X
  ln : ∀ i, i < 2 → (f i).L.length ≤ k
  told : Tl X T W
  row : Row X 39 1 tl T.length (T.map tv)
  tw : ∀ q, TOn T q ∨ tl.ownBlock = some q → w.heap.size ≤ q
  tk : T.length ≤ mt

section
variable {w X X' : World} {most Ao Ar k mt n : Nat} {f : Nat → Sd} {tl : Value} {T : List Tld} {W : Nat → List Int}
theorem TOn.lt {q : Nat} (h : Tl X T W) (hq : TOn T q) : q < X.heap.size := by
  obtain ⟨i, m, e⟩ := hq
  exact lt_of_block (h.blk i q m e).1
theorem Stt.lt (h : Stt w X most Ao Ar k mt n f tl T W) {i q : Nat} (hi : i < 2) (hq : (f i).own q) : q < X.heap.size := by
  rcases hq with hq | hq
  · exact (h.pr i hi).lg.lt hq
  · exact (h.pr i hi).rf.lt hq
theorem Stt.apij (h : Stt w X most Ao Ar k mt n f tl T W) {i j : Nat} (hij : i + j = 1) {q : Nat} (h1 : (f i).own q) (h2 : (f j).own q) : False := by
  have : (i = 0 ∧ j = 1) ∨ (i = 1 ∧ j = 0) := by omega
  rcases this with ⟨rfl, rfl⟩ | ⟨rfl, rfl⟩
  · exact h.ap q h1 h2
  · exact h.ap q h2 h1
theorem Stt.same (h : Stt w X most Ao Ar k mt n f tl T W) (hk : Keeps (fun _ => False) X X') : Stt w X' most Ao Ar k mt n f tl T W :=
  ⟨fun i hi => (h.pr i hi).same hk, h.ap, h.out, hk.old h.bo (fun f => f), hk.old h.br (fun f => f), h.ne, h.no, h.nr, h.kp.trans hk, h.ln, h.told.kept hk (fun _ _ f => f), h.row.kept hk (fun _ _ f => f), h.tw, h.tk⟩
theorem Stt.up (h : Stt w X most Ao Ar k mt n f tl T W) : Stt w X most Ao Ar k (mt + 1) n f tl T W :=
  ⟨h.pr, h.ap, h.out, h.bo, h.br, h.ne, h.no, h.nr, h.kp, h.ln, h.told, h.row, h.tw, by have := h.tk; omega⟩
theorem Stt.op (h : Stt w X most Ao Ar k mt n f tl T W) (o : Obj) : Stt w (X.alloc o) most Ao Ar k mt X.heap.size f tl T W := by
  have hs := h.same ((Keeps.refl _ X).alloc o)
  refine ⟨hs.pr, h.ap, fun i q hi hq => ?_, hs.bo, hs.br, h.ne, h.no, h.nr, hs.kp, h.ln, hs.told, hs.row, h.tw, h.tk⟩
  obtain ⟨q1, q2, _, q4, q5, q6⟩ := h.out i q hi hq
  have := h.lt hi hq
  exact ⟨q1, q2, by omega, q4, q5, q6⟩
theorem Stt.cells (h : Stt w X most Ao Ar k mt n f tl T W) {i : Nat} (hi : i < 2) : X.cell? ⟨Ao, i, none⟩ = some (.pointer (some ⟨(f i).r, 0, none⟩)) ∧ X.cell? ⟨Ar, i, none⟩ = some (.pointer (some ⟨(f i).b, 0, none⟩)) := by
  rw [cell_of_block h.bo, cell_of_block h.br]
  have : i = 0 ∨ i = 1 := by omega
  rcases this with rfl | rfl <;> exact ⟨rfl, rfl⟩
theorem Stt.trow (h : Stt w X most Ao Ar k mt n f tl T W) : TRow X tl T := by
  obtain ⟨a, c, hv, _, _⟩ := h.row.form
  refine ⟨a, c, hv, fun i t ht => ?_⟩
  have hi : i < T.length := (List.getElem?_eq_some_iff.1 ht).1
  obtain ⟨g, cap, hv2, _, _, hc, _⟩ := h.row.at (by omega)
  rw [hv] at hv2
  injection hv2 with e1 _ _
  refine ⟨g, e1, (hc i (by omega)).trans (by simp [ht]), fun ⟨j, m, e⟩ => ?_⟩
  obtain ⟨c2, hc2⟩ := h.row.kind (k := g) (by rw [hv, e1]; rfl)
  exact absurd (kind_ne hc2 (h.told.blk j g m e).1) (by decide)
/-- What the law's step leaves. -/
theorem Stt.step (h : Stt w X most Ao Ar k mt n f tl T W) {i j : Nat} (hij : i + j = 1) (hs : PrTo X X' (f i).r (f i).b most (f i).L (f i).Ow (f i).Of) (hn : n < X.heap.size) :
    ∃ f', Stt w X' most Ao Ar (k + 1) mt n f' tl T W ∧ (f' i).r = (f i).r ∧ (f' i).b = (f i).b ∧ Keeps (fun q => (f i).own q) X X' := by
  obtain ⟨L', Ow', Of', h1, h2, h3, h4, h5⟩ := hs
  have hi : i < 2 := by omega
  have hj : j < 2 := by omega
  have hji : j ≠ i := by omega
  have hnew : ∀ q, (Ow' q ∨ Of' q) → (f i).own q ∨ X.heap.size ≤ q := fun q hq => by
    rcases hq with hq | hq
    · exact (h2 q hq).imp .inl id
    · exact (h3 q hq).imp .inr id
  have k4 : Keeps (fun q => (f i).own q) X X' := h4
  have hprj : Pr X' (f j).r (f j).b most (f j).L (f j).Ow (f j).Of := by
    have hp := h.pr j hj
    exact ⟨hp.lg.kept k4 (fun q ho e => h.apij hij e (.inl ho)), hp.rf.kept k4 (fun q ho e => h.apij hij e (.inr ho)), hp.dj, hp.p0, hp.f0, hp.pl, h1.tz⟩
  have hlt : ∀ q, TOn T q → q < X.heap.size := fun q hq => TOn.lt h.told hq
  have hlo := lt_of_block h.bo
  have hlr := lt_of_block h.br
  have hw := h.kp.size
  have hcase : ∀ x, x < 2 → x = i ∨ x = j := fun x hx => by omega
  refine ⟨upg f i ⟨(f i).r, (f i).b, L', Ow', Of'⟩, ⟨fun x hx => ?_, ?_, fun x q hx hq => ?_, ?_, ?_, h.ne, h.no, h.nr, ?_, fun x hx => ?_, h.told.kept k4 (fun q hq e => (h.out i q hi e).2.2.2.1 hq), h.row.kept k4 (fun q hq e => (h.out i q hi e).2.2.2.2.1 hq), h.tw, h.tk⟩, by rw [upg_same], by rw [upg_same], k4⟩
  · rcases hcase x hx with rfl | rfl
    · rw [upg_same]; exact h1
    · rw [upg_other _ _ hji]; exact hprj
  · have key : ∀ q, (Ow' q ∨ Of' q) → ¬ (f j).own q := fun q hq ho => by
      rcases hnew q hq with e | e
      · exact h.apij hij e ho
      · have := h.lt hj ho
        omega
    have : (i = 0 ∧ j = 1) ∨ (i = 1 ∧ j = 0) := by omega
    rcases this with ⟨rfl, rfl⟩ | ⟨rfl, rfl⟩
    · rw [upg_same, upg_other _ _ hji]; exact fun q hq => key q hq
    · rw [upg_same, upg_other _ _ hji]; exact fun q hq ho => key q ho hq
  · rcases hcase x hx with rfl | rfl
    · rw [upg_same] at hq
      rcases hnew q hq with e | e
      · exact h.out x q hi e
      · refine ⟨by omega, by omega, by omega, fun e2 => ?_, fun e2 => ?_, by omega⟩
        · have := hlt q e2; omega
        · have := h.row.lt e2; omega
    · rw [upg_other _ _ hji] at hq
      exact h.out x q hj hq
  · have : obO (upg f i ⟨(f i).r, (f i).b, L', Ow', Of'⟩) = obO f := by
      have : (i = 0 ∧ j = 1) ∨ (i = 1 ∧ j = 0) := by omega
      rcases this with ⟨rfl, rfl⟩ | ⟨rfl, rfl⟩ <;> simp [obO, upg]
    rw [this]
    exact k4.old h.bo (fun e => (h.out i Ao hi e).1 rfl)
  · have : obR (upg f i ⟨(f i).r, (f i).b, L', Ow', Of'⟩) = obR f := by
      have : (i = 0 ∧ j = 1) ∨ (i = 1 ∧ j = 0) := by omega
      rcases this with ⟨rfl, rfl⟩ | ⟨rfl, rfl⟩ <;> simp [obR, upg]
    rw [this]
    exact k4.old h.br (fun e => (h.out i Ar hi e).2.1 rfl)
  · exact h.kp.step k4 (fun q hq e => by have := (h.out i q hi e).2.2.2.2.2; omega)
  · rcases hcase x hx with rfl | rfl
    · rw [upg_same]; have := h.ln x hi; simp only; omega
    · rw [upg_other _ _ hji]; have := h.ln x hj; omega
end
end Go.Proofs.YtbgnlenhncbceaaDoor


/-
  Copies of redo logs, and lists that are told. No statement of the seat is proved here.
-/
namespace Go.Proofs.YtbgnlenhncbceaaDoor
open Go.RowKit Go.Shelf

section
variable {w X X' Y1 Y2 : World} {most Ao Ar k mt n : Nat} {f : Nat → Sd} {tl : Value} {T : List Tld} {W : Nat → List Int}
/-- A copy's state. -/
theorem Stt.copy (h : Stt w X most Ao Ar k mt n f tl T W) {i j : Nat} (hij : i + j = 1) (hn : n < X.heap.size) (h0 : 0 < w.heap.size) {r' b' : Nat} {u' : Value} {Ow' : Nat → Prop} (h1 : LogAt Y1 r' most (f j).L Ow') (n1 : ∀ q, Ow' q → X.heap.size ≤ q) (k1 : Keeps (fun _ => False) X Y1)
    (h2 : RefAt Y2 b' most (f j).L u') (nb : (Y1.setCell ⟨Ao, i, none⟩ (.pointer (some ⟨r', 0, none⟩))).heap.size ≤ b') (nu : ∀ g, u'.ownBlock = some g → (Y1.setCell ⟨Ao, i, none⟩ (.pointer (some ⟨r', 0, none⟩))).heap.size ≤ g) (k2 : Keeps (fun _ => False) (Y1.setCell ⟨Ao, i, none⟩ (.pointer (some ⟨r', 0, none⟩))) Y2) :
    ∃ f', Stt w (Y2.setCell ⟨Ar, i, none⟩ (.pointer (some ⟨b', 0, none⟩))) most Ao Ar k mt n f' tl T W ∧ (f' i).r = r' ∧ (f' i).b = b' := by
  have hi : i < 2 := by omega
  have hj : j < 2 := by omega
  have hji : j ≠ i := by omega
  have kA : Keeps (fun q => q = Ao) Y1 (Y1.setCell ⟨Ao, i, none⟩ (.pointer (some ⟨r', 0, none⟩))) := (Keeps.refl (fun q => q = Ao) Y1).setCell (p := ⟨Ao, i, none⟩) (.inr rfl) _
  have hbA := block_set (k1.old h.bo (fun f => f)) i (.pointer (some ⟨r', 0, none⟩))
  generalize Y1.setCell ⟨Ao, i, none⟩ (.pointer (some ⟨r', 0, none⟩)) = Ys at *
  have kR : Keeps (fun q => q = Ar) Y2 (Y2.setCell ⟨Ar, i, none⟩ (.pointer (some ⟨b', 0, none⟩))) := (Keeps.refl (fun q => q = Ar) Y2).setCell (p := ⟨Ar, i, none⟩) (.inr rfl) _
  have hbR := block_set (k2.old (kA.old (k1.old h.br (fun f => f)) (fun e => h.ne e.symm)) (fun f => f)) i (.pointer (some ⟨b', 0, none⟩))
  generalize Y2.setCell ⟨Ar, i, none⟩ (.pointer (some ⟨b', 0, none⟩)) = Z at *
  have s1 := k1.size
  have s2 := kA.size
  have s3 := k2.size
  have lo := lt_of_block h.bo
  have lr := lt_of_block h.br
  have hw := h.kp.size
  have no := h.no
  have nr := h.nr
  have kk : Keeps (fun q => q = Ao ∨ q = Ar) X Z := (((k1.mono (fun _ _ f => f.elim)).trans (kA.mono (fun _ _ e => .inl e))).trans (k2.mono (fun _ _ f => f.elim))).trans (kR.mono (fun _ _ e => .inr e))
  have hnew : ∀ q, (Ow' q ∨ (q = b' ∨ u'.ownBlock = some q)) → X.heap.size ≤ q := fun q hq => by
    rcases hq with hq | rfl | hq
    · exact n1 q hq
    · omega
    · have := nu q hq; omega
  have hcase : ∀ x, x < 2 → x = i ∨ x = j := fun x hx => by omega
  have hpj := h.pr j hj
  have tzZ : Tz Z := hpj.tz.keeps kk (fun e => by omega)
  refine ⟨upg f i ⟨r', b', (f j).L, Ow', fun q => q = b' ∨ u'.ownBlock = some q⟩, ⟨fun x hx => ?_, ?_, fun x q hx hq => ?_, ?_, ?_, h.ne, h.no, h.nr, ?_, fun x hx => ?_, h.told.kept kk (fun q hq e => ?_), h.row.kept kk (fun q hq e => ?_), h.tw, h.tk⟩, by rw [upg_same], by rw [upg_same]⟩
  · rcases hcase x hx with rfl | rfl
    · rw [upg_same]
      refine ⟨((h1.kept kA (fun q hq e => by have := n1 q hq; omega)).kept k2 (fun _ _ f => f)).kept kR (fun q hq e => by have := n1 q hq; omega), ⟨u', h2.kept kR (by omega) (fun g hg e => by have := nu g hg; omega), fun q => Iff.rfl⟩, fun q ho hf => ?_, fun q ho => by have := n1 q ho; omega, fun q hf => by have := hnew q (.inr hf); omega, hpj.pl, tzZ⟩
      have := h1.lt ho
      rcases hf with rfl | hf
      · omega
      · have := nu q hf; omega
    · rw [upg_other _ _ hji]
      exact ⟨hpj.lg.kept kk (fun q ho e => by have := h.out x q hj (.inl ho); rcases e with e | e; exact this.1 e; exact this.2.1 e), hpj.rf.kept kk (fun q ho e => by have := h.out x q hj (.inr ho); rcases e with e | e; exact this.1 e; exact this.2.1 e), hpj.dj, hpj.p0, hpj.f0, hpj.pl, tzZ⟩
  · have key : ∀ q, (Ow' q ∨ (q = b' ∨ u'.ownBlock = some q)) → ¬ (f j).own q := fun q hq ho => by
      have := hnew q hq
      have := h.lt hj ho
      omega
    have : (i = 0 ∧ j = 1) ∨ (i = 1 ∧ j = 0) := by omega
    rcases this with ⟨rfl, rfl⟩ | ⟨rfl, rfl⟩
    · rw [upg_same, upg_other _ _ hji]; exact fun q hq => key q hq
    · rw [upg_same, upg_other _ _ hji]; exact fun q hq ho => key q ho hq
  · rcases hcase x hx with rfl | rfl
    · rw [upg_same] at hq
      have hq' := hnew q hq
      refine ⟨by omega, by omega, by omega, fun e2 => ?_, fun e2 => ?_, by omega⟩
      · have := TOn.lt h.told e2; omega
      · have := h.row.lt e2; omega
    · rw [upg_other _ _ hji] at hq
      exact h.out x q hj hq
  · have e := kR.old (k2.old hbA (fun f => f)) (fun e => h.ne e)
    rw [e]
    have : (i = 0 ∧ j = 1) ∨ (i = 1 ∧ j = 0) := by omega
    rcases this with ⟨rfl, rfl⟩ | ⟨rfl, rfl⟩ <;> simp [obO, upg]
  · rw [hbR]
    have : (i = 0 ∧ j = 1) ∨ (i = 1 ∧ j = 0) := by omega
    rcases this with ⟨rfl, rfl⟩ | ⟨rfl, rfl⟩ <;> simp [obR, upg]
  · exact h.kp.step kk (fun q hq e => by omega)
  · rcases hcase x hx with rfl | rfl
    · rw [upg_same]; exact h.ln j hj
    · rw [upg_other _ _ hji]; exact h.ln x hj
  · obtain ⟨x, m, ex⟩ := hq
    have hb := (h.told.blk x q m ex).1
    rcases e with rfl | rfl
    · exact absurd (kind_ne hb h.bo) (by decide)
    · exact absurd (kind_ne hb h.br) (by decide)
  · obtain ⟨c, hc⟩ := h.row.kind hq
    rcases e with rfl | rfl
    · exact absurd (kind_ne hc h.bo) (by decide)
    · exact absurd (kind_ne hc h.br) (by decide)

/-- A list is told. -/
theorem Stt.tell (h : Stt w X most Ao Ar k mt n f tl T W) {t : Tld} {ws : List Int} (hb : ∀ g, t.1 = some g → X'.heap[g]? = some (.cells (u64s ws) 38 (0, 0)) ∧ ws.length = t.2 ∧ X.heap.size ≤ g) (hz : t.1 = none → t.2 = 0) (hsz : t.2 * 8 ≤ 140737488351232) (hk : Keeps (fun _ => False) X X') (hT : T.length + 1 < 2199023255554) (h0 : 0 < w.heap.size) :
    ∃ tl' X'', Hid ((Builtin.append_ #[59, 59] 59 #[tl, .slice (some ⟨X'.heap.size, 0, none⟩) 1 1]).run Tryd.prog (X'.alloc (.cells #[tv t] 39)) = .ok tl' X'') ∧ Keeps (fun q => tl.ownBlock = some q) X' X'' ∧ ∃ T' W', Stt w X'' most Ao Ar k (mt + 1) n f tl' T' W' := by
  obtain ⟨i0, hi0, hz0, hz1, hzb⟩ := info_parts info_list
  have hka : Keeps (fun _ => False) X' (X'.alloc (.cells #[tv t] 39)) := (Keeps.refl _ X').alloc _
  have hA := (h.same hk).same hka
  have hone : (tv t).oneCell' = true := by
    obtain ⟨a, m⟩ := t
    cases a <;> simp [tv, Value.oneCell']
  obtain ⟨g, cap, w', q1, q2, q3⟩ := run_append_row (P := Tryd.prog) _ 59 59 39 i0 _ 1 24 Tryd.underlying59 hi0 hz0 hz1 hzb rfl hA.row ⟨X'.heap.size, 0, none⟩ 1 1 (by decide) [tv t] rfl (new_cell X' _ _) (by simp [hone]) (by unfold maxLen; omega) (by omega)
  have kk : Keeps (fun q => tl.ownBlock = some q) (X'.alloc (.cells #[tv t] 39)) w' := by
    rcases q3 with ⟨_, e2⟩ | ⟨e1, _, _, e4⟩
    · exact e2.mono (fun _ _ f => f.elim)
    · exact e4.mono (fun q _ e => by subst e; exact e1)
  have s0 := hk.size
  have s1 := kk.size
  have s2 : (X'.alloc (.cells #[tv t] 39)).heap.size = X'.heap.size + 1 := by simp
  have hg : tl.ownBlock = some g ∨ X'.heap.size ≤ g := by
    rcases q3 with ⟨e1, _⟩ | ⟨e1, _⟩
    · exact .inr (by omega)
    · exact .inl e1
  have hgt : ∀ q, (some q = t.1) → X'.heap[q]? = some (.cells (u64s ws) 38 (0, 0)) := fun q hq => (hb q hq.symm).1
  have hgr : ∃ c, w'.heap[g]? = some (.cells c 39 (0, 0)) := q2.kind rfl
  have hTo : ∀ q, TOn (T ++ [t]) q → TOn T q ∨ t.1 = some q := fun q ⟨x, m, e⟩ => by
    rw [List.getElem?_append] at e
    split at e
    · exact .inl ⟨x, m, e⟩
    · right
      have : x - T.length = 0 := by
        apply Classical.byContradiction
        intro hx
        rw [List.getElem?_eq_none (by simp; omega)] at e
        cases e
      rw [this] at e
      simp at e
      rw [e]
  have notlv : ∀ q, tl.ownBlock = some q → ¬ TOn (T ++ [t]) q := fun q hq ht => by
    obtain ⟨c, hc⟩ := (h.same hk).row.kind hq
    rcases hTo q ht with ⟨x, m, e⟩ | e
    · exact absurd (kind_ne hc ((h.same hk).told.blk x q m e).1) (by decide)
    · exact absurd (kind_ne hc (hb q e).1) (by decide)
  have hget : ∀ (x : Nat) (s : Tld), (T ++ [t])[x]? = some s → (x < T.length ∧ T[x]? = some s) ∨ (x = T.length ∧ t = s) := fun x s e => by
    rw [List.getElem?_append] at e
    split at e
    · exact .inl ⟨by assumption, e⟩
    · right
      have hx : x - T.length = 0 := by
        apply Classical.byContradiction
        intro hx
        rw [List.getElem?_eq_none (by simp; omega)] at e
        cases e
      rw [hx] at e
      simp at e
      exact ⟨by omega, e⟩
  have hltT : ∀ (x q m : Nat), T[x]? = some (some q, m) → q < X.heap.size := fun x q m e => lt_of_block (h.told.blk x q m e).1
  refine ⟨_, w', q1, (hka.mono (fun _ _ f => f.elim)).trans kk, T ++ [t], (fun x => if x = T.length then ws else W x), ⟨fun x hx => ?_, h.ap, fun x q hx hq => ?_, kk.old hA.bo (fun e => ?_), kk.old hA.br (fun e => ?_), h.ne, h.no, h.nr, hA.kp.step kk (fun q hq e => by have := h.tw q (.inr e); omega), h.ln, ?_, ?_, fun q hq => ?_, by simp; have := h.tk; omega⟩⟩
  · have hp := hA.pr x hx
    have no : ∀ q, (f x).own q → ¬ tl.ownBlock = some q := fun q hq => (h.out x q hx hq).2.2.2.2.1
    exact ⟨hp.lg.kept kk (fun q hq => no q (.inl hq)), hp.rf.kept kk (fun q hq => no q (.inr hq)), hp.dj, hp.p0, hp.f0, hp.pl, hp.tz.keeps kk (fun e => by
      have := h.tw 0 (.inr e)
      omega)⟩
  · obtain ⟨p1, p2, p3, p4, p5, p6⟩ := h.out x q hx hq
    have hlt := h.lt hx hq
    refine ⟨p1, p2, p3, fun e => ?_, fun e => ?_, p6⟩
    · rcases hTo q e with e | e
      · exact p4 e
      · have := (hb q e).2.2; omega
    · simp [Value.ownBlock] at e
      subst e
      rcases hg with e | e
      · exact p5 e
      · omega
  · obtain ⟨c, hc⟩ := h.row.kind e
    exact absurd (kind_ne hc h.bo) (by decide)
  · obtain ⟨c, hc⟩ := h.row.kind e
    exact absurd (kind_ne hc h.br) (by decide)
  · refine ⟨fun x q m e => ?_, fun x m e => ?_, fun x y q m m' e e' => ?_, fun x q m e => ?_⟩
    · rcases hget x _ e with ⟨hx, e1⟩ | ⟨rfl, rfl⟩
      · simp only [if_neg (show x ≠ T.length by omega)]
        exact ⟨kk.old (hA.told.blk x q m e1).1 (fun e2 => notlv q e2 ⟨x, m, e⟩), (hA.told.blk x q m e1).2⟩
      · simp only [if_true]
        obtain ⟨r1, r2, _⟩ := hb q rfl
        exact ⟨kk.old (hka.old r1 (fun f => f)) (fun e2 => notlv q e2 ⟨_, m, e⟩), r2⟩
    · rcases hget x _ e with ⟨hx, e1⟩ | ⟨rfl, rfl⟩
      · exact h.told.nil x m e1
      · exact hz rfl
    · rcases hget x _ e with ⟨hx, e1⟩ | ⟨rfl, rfl⟩
      · rcases hget y _ e' with ⟨hy, e2⟩ | ⟨rfl, rfl⟩
        · exact h.told.dist x y q m m' e1 e2
        · have := hltT x q m e1
          have := (hb q rfl).2.2
          omega
      · rcases hget y _ e' with ⟨hy, e2⟩ | ⟨rfl, _⟩
        · have := hltT y q m' e2
          have := (hb q rfl).2.2
          omega
        · rfl
    · rcases hget x _ e with ⟨hx, e1⟩ | ⟨rfl, rfl⟩
      · exact h.told.sz x q m e1
      · exact hsz
  · rw [List.length_append, List.map_append]
    exact q2
  · rcases hq with hq | hq
    · rcases hTo q hq with e | e
      · exact h.tw q (.inl e)
      · have := (hb q e).2.2; have := h.kp.size; omega
    · simp [Value.ownBlock] at hq
      subst hq
      rcases hg with e | e
      · exact h.tw _ (.inr e)
      · have := h.kp.size; omega
end

def boR (most : Nat) : Obj := .cells #[.int .i64 most, .slice none 0 0] 36 (0, 0)
/-- How it begins. -/
theorem stt_init (most : Nat) (w X1 X2 : World) (hw : Tz w) (r0 r1 : Nat) (O0 O1 : Nat → Prop) (h0 : LogAt X1 r0 most [] O0) (n0 : ∀ q, O0 q → w.heap.size ≤ q) (k0 : Keeps (fun _ => False) w X1) (h1 : LogAt X2 r1 most [] O1) (n1 : ∀ q, O1 q → X1.heap.size ≤ q) (k1 : Keeps (fun _ => False) X1 X2)
    (f : Nat → Sd) (hf : f = fun i => if i = 0 then ⟨r0, X2.heap.size + 1, [], O0, fun q => q = X2.heap.size + 1⟩ else ⟨r1, X2.heap.size + 1 + 1, [], O1, fun q => q = X2.heap.size + 1 + 1⟩) :
    Stt w ((((X2.alloc (obO f)).alloc (boR most)).alloc (boR most)).alloc (obR f)) most X2.heap.size (X2.heap.size + 1 + 1 + 1) 0 0 X2.heap.size f (.slice none 0 0) [] (fun _ => []) := by
  have hz : ∀ (W : World) o, (W.alloc o).heap.size = W.heap.size + 1 := fun W o => by simp
  have f0 : f 0 = ⟨r0, X2.heap.size + 1, [], O0, fun q => q = X2.heap.size + 1⟩ := by rw [hf]; rfl
  have f1 : f 1 = ⟨r1, X2.heap.size + 1 + 1, [], O1, fun q => q = X2.heap.size + 1 + 1⟩ := by rw [hf]; rfl
  clear hf
  have b0 : (X2.alloc (obO f)).heap[X2.heap.size]? = some (obO f) := alloc_block _ _
  have b1 : ((X2.alloc (obO f)).alloc (boR most)).heap[X2.heap.size + 1]? = some (boR most) := by rw [← hz X2 (obO f)]; exact alloc_block _ _
  have b2 : (((X2.alloc (obO f)).alloc (boR most)).alloc (boR most)).heap[X2.heap.size + 1 + 1]? = some (boR most) := by rw [← hz X2 (obO f), ← hz (X2.alloc (obO f)) (boR most)]; exact alloc_block _ _
  have b3 : ((((X2.alloc (obO f)).alloc (boR most)).alloc (boR most)).alloc (obR f)).heap[X2.heap.size + 1 + 1 + 1]? = some (obR f) := by rw [← hz X2 (obO f), ← hz (X2.alloc (obO f)) (boR most), ← hz ((X2.alloc (obO f)).alloc (boR most)) (boR most)]; exact alloc_block _ _
  have kA : Keeps (fun _ => False) X2 ((((X2.alloc (obO f)).alloc (boR most)).alloc (boR most)).alloc (obR f)) := ((((Keeps.refl _ X2).alloc _).alloc _).alloc _).alloc _
  have b0' := alloc_old (alloc_old (alloc_old b0 (boR most)) (boR most)) (obR f)
  have b1' := alloc_old (alloc_old b1 (boR most)) (obR f)
  have b2' := alloc_old b2 (obR f)
  generalize (((X2.alloc (obO f)).alloc (boR most)).alloc (boR most)).alloc (obR f) = X at *
  have k2 : Keeps (fun _ => False) X1 X := k1.trans kA
  have s0 := k0.size
  have s1 := k1.size
  have hp := hw.pos
  have tz : Tz X := (hw.keeps (k0.trans k2) (fun f => f))
  have l0 : ∀ q, O0 q → q < X1.heap.size := fun q hq => h0.lt hq
  have l1 : ∀ q, O1 q → q < X2.heap.size := fun q hq => h1.lt hq
  have hon : ∀ q, ¬ TOn [] q := fun q ⟨x, m, e⟩ => by simp at e
  refine ⟨fun i hi => ?_, fun q hq hq' => ?_, fun i q hi hq => ?_, b0', b3, by omega, by omega, by omega, k0.trans k2, fun i hi => ?_, ⟨fun x q m e => by simp at e, fun x m e => by simp at e, fun x y q m m' e => by simp at e, fun x q m e => by simp at e⟩, row_nil _ _ _, fun q hq => ?_, by simp⟩
  · have : i = 0 ∨ i = 1 := by omega
    rcases this with rfl | rfl
    · rw [f0]
      exact ⟨h0.kept k2 (fun _ _ f => f), ⟨.slice none 0 0, ⟨b1', row_nil _ _ _⟩, fun q => by simp [Value.ownBlock]⟩, fun q hq e => by have := l0 q hq; simp only at e; omega, fun q hq => by have := n0 q hq; omega, fun q e => by simp only at e; omega, by simp, tz⟩
    · rw [f1]
      exact ⟨h1.kept kA (fun _ _ f => f), ⟨.slice none 0 0, ⟨b2', row_nil _ _ _⟩, fun q => by simp [Value.ownBlock]⟩, fun q hq e => by have := l1 q hq; simp only at e; omega, fun q hq => by have := n1 q hq; omega, fun q e => by simp only at e; omega, by simp, tz⟩
  · rw [f0] at hq
    rw [f1] at hq'
    rcases hq with hq | hq <;> rcases hq' with hq' | hq'
    · have := l0 q hq; have := n1 q hq'; omega
    · have := l0 q hq; simp only at hq'; omega
    · have := l1 q hq'; simp only at hq; omega
    · simp only at hq hq'; omega
  · have : i = 0 ∨ i = 1 := by omega
    rcases this with rfl | rfl
    · rw [f0] at hq
      have hq2 : w.heap.size ≤ q ∧ (q < X2.heap.size ∨ q = X2.heap.size + 1) := by
        rcases hq with hq | hq
        · have := l0 q hq; have := n0 q hq; omega
        · simp only at hq; omega
      exact ⟨by omega, by omega, by omega, hon q, by simp [Value.ownBlock], hq2.1⟩
    · rw [f1] at hq
      have hq2 : w.heap.size ≤ q ∧ (q < X2.heap.size ∨ q = X2.heap.size + 1 + 1) := by
        rcases hq with hq | hq
        · have := l1 q hq; have := n1 q hq; omega
        · simp only at hq; omega
      exact ⟨by omega, by omega, by omega, hon q, by simp [Value.ownBlock], hq2.1⟩
  · have : i = 0 ∨ i = 1 := by omega
    rcases this with rfl | rfl
    · rw [f0]; simp
    · rw [f1]; simp
  · rcases hq with hq | hq
    · exact absurd hq (hon q)
    · simp [Value.ownBlock] at hq
end Go.Proofs.YtbgnlenhncbceaaDoor
