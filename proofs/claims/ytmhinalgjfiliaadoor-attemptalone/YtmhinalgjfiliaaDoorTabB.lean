
/-
  What becomes of a table in memory when a key comes and when a slot is stored. No statement of the seat is proved here.
-/
import Derived.Test.YtmhinalgjfiliaaDoorTab
namespace Go.Proofs.YtmhinalgjfiliaaDoor
open Go.RowKit

/-- Two worlds that part in how much was drawn alone. -/
structure Like (a b : World) : Prop where
  heap : a.heap = b.heap
  os : a.os = b.os
  tape : a.tape = b.tape
  output : a.output = b.output
theorem Like.refl (a : World) : Like a a := ⟨rfl, rfl, rfl, rfl⟩
theorem Like.keeps {S : Nat → Prop} {w a b : World} (h : Like a b) (k : Keeps S w b) : Keeps S w a :=
  ⟨h.os.trans k.os, h.tape.trans k.tape, h.output.trans k.output, by rw [h.heap]; exact k.size, fun i hi hs => by rw [h.heap]; exact k.block i hi hs⟩
theorem Like.tab {T : Kinds} {a w : World} {b s e0 : Nat} {K : List (Option Int)} {O : List Int} {bf : Int → Nat} {vf : Int → Value} (h : Like a w) (t : TabAt T w b s e0 K O bf vf) : TabAt T a b s e0 K O bf vf :=
  ⟨by rw [h.heap]; exact t.tab, by rw [h.heap]; exact t.slots, by rw [h.heap]; exact t.sent, fun i hi => by rw [h.heap]; exact t.ent i hi, t.bs, t.be, t.se, t.kb, t.binj, t.nd⟩

/-- A function turned at one key. -/
def upd {α : Type} (f : Int → α) (k : Int) (v : α) : Int → α := fun q => if q = k then v else f q
theorem upd_same {α : Type} (f : Int → α) (k : Int) (v : α) : upd f k v k = v := if_pos rfl
theorem upd_other {α : Type} (f : Int → α) {k q : Int} (v : α) (h : q ≠ k) : upd f k v q = f q := if_neg h

theorem oat_snoc_lt {O : List Int} {i : Nat} (k : Int) (h : i < O.length) : oat (O ++ [k]) i = oat O i := by
  unfold oat
  rw [List.getElem?_append_left h]
theorem oat_snoc_eq (O : List Int) (k : Int) : oat (O ++ [k]) O.length = k := by simp [oat]

theorem node_snoc {bf : Int → Nat} {e0 N : Nat} {O : List Int} {k : Int} (hk : k ∉ O) : ∀ i, i ≤ O.length → node (upd bf k N) e0 (O ++ [k]) i = node bf e0 O i
  | 0, _ => rfl
  | i + 1, h => by
    simp only [node, List.length_append, List.length_singleton]
    rw [if_pos (by omega), if_pos (by omega), oat_snoc_lt k (by omega), upd_other]
    intro e
    exact hk (e ▸ oat_mem (by omega))
theorem node_snoc_last (bf : Int → Nat) (e0 N : Nat) (O : List Int) (k : Int) : node (upd bf k N) e0 (O ++ [k]) (O.length + 1) = N := by
  simp only [node, List.length_append, List.length_singleton]
  rw [if_pos (by omega), oat_snoc_eq, upd_same]
theorem node_end (bf : Int → Nat) (e0 : Nat) (O : List Int) : node bf e0 O (O.length + 1) = e0 := by
  simp only [node]
  rw [if_neg (by omega)]
theorem node_pos (bf : Int → Nat) (e0 : Nat) (O : List Int) {i : Nat} (h : i < O.length) : node bf e0 O (i + 1) = bf (oat O i) := if_pos h

section
variable {T : Kinds} {w w' : World} {b s e0 : Nat} {K : List (Option Int)} {O : List Int} {bf : Int → Nat} {vf : Int → Value}

/-- The world behind the coming of a key. -/
def comeW (T : Kinds) (w : World) (b e0 last : Nat) (k : Int) (v : Value) (len : Int) : World :=
  ((((w.alloc (.cells (entCells k v last e0) T.ent)).setCell ⟨last, 3, none⟩ (.pointer (some ⟨w.heap.size, 0, none⟩))).setCell ⟨e0, 2, none⟩ (.pointer (some ⟨w.heap.size, 0, none⟩))).setCell ⟨b, 1, none⟩ (.int .i64 len))

theorem TabAt.come (h : TabAt T w b s e0 K O bf vf) {k : Int} (hk : k ∉ O) (hK : ∀ x, sl K x ≠ some k) (v : Value) :
    TabAt T (comeW T w b e0 (node bf e0 O O.length) k v (O.length + 1 : Nat)) b s e0 K (O ++ [k]) (upd bf k w.heap.size) (upd vf k v) := by
  have hlb := lt_of_block h.tab
  have hls := lt_of_block h.slots
  have hle := lt_of_block h.sent
  have hbf : ∀ q, q ∈ O → upd bf k w.heap.size q = bf q := fun q hq => upd_other _ _ (fun e => hk (e ▸ hq))
  have hvf : ∀ q, q ∈ O → upd vf k v q = vf q := fun q hq => upd_other _ _ (fun e => hk (e ▸ hq))
  have hltq : ∀ q, q ∈ O → bf q < w.heap.size := fun q hq => h.lt (.inr (.inr (.inr ⟨q, hq, rfl⟩)))
  have hlast : node bf e0 O O.length = e0 ∧ O.length = 0 ∨ ∃ j, O.length = j + 1 ∧ node bf e0 O O.length = bf (oat O j) := by
    cases hO : O.length with
    | zero => exact .inl ⟨rfl, rfl⟩
    | succ j => exact .inr ⟨j, rfl, node_pos bf e0 O (by omega)⟩
  have hlb' : b ≠ node bf e0 O O.length := by
    rcases hlast with ⟨e, _⟩ | ⟨j, hj, e⟩
    · rw [e]; exact h.be
    · rw [e]; exact fun e => (h.kb _ (oat_mem (by omega))).1 e.symm
  have hls' : s ≠ node bf e0 O O.length := by
    rcases hlast with ⟨e, _⟩ | ⟨j, hj, e⟩
    · rw [e]; exact h.se
    · rw [e]; exact fun e => (h.kb _ (oat_mem (by omega))).2.1 e.symm
  refine ⟨?_, ?_, ?_, ?_, h.bs, h.be, h.se, ?_, ?_, by rw [List.nodup_append]; exact ⟨h.nd, by simp, fun a ha q hq => by simp at hq; subst hq; exact fun e => hk (e ▸ ha)⟩⟩
  · have := block_set (block_other (block_other (alloc_old h.tab (.cells (entCells k v (node bf e0 O O.length) e0) T.ent)) hlb' 3 (.pointer (some ⟨w.heap.size, 0, none⟩))) h.be 2 (.pointer (some ⟨w.heap.size, 0, none⟩))) 1 (.int .i64 (O.length + 1 : Nat))
    rw [List.length_append, List.length_singleton]
    exact this
  · rw [slotCells_congr (bf := bf) (fun q ⟨x, hx⟩ => upd_other _ _ (fun e => hK x (e ▸ hx)))]
    exact block_other (block_other (block_other (alloc_old h.slots _) hls' 3 _) h.se 2 _) (Ne.symm h.bs) 1 _
  · rw [List.length_append, List.length_singleton, node_snoc_last]
    rcases hlast with ⟨e, h0⟩ | ⟨j, hj, e⟩
    · obtain rfl := List.eq_nil_of_length_eq_zero h0
      rw [show node (upd bf k w.heap.size) e0 ([] ++ [k]) 1 = w.heap.size from node_snoc_last bf e0 w.heap.size [] k]
      unfold comeW
      rw [e]
      exact block_other (block_set (block_set (alloc_old h.sent _) 3 _) 2 _) (Ne.symm h.be) 1 _
    · rw [node_snoc hk 1 (by omega)]
      unfold comeW
      rw [e]
      exact block_other (block_set (block_other (alloc_old h.sent _) (Ne.symm (h.kb _ (oat_mem (by omega))).2.2) 3 _) 2 _) (Ne.symm h.be) 1 _
  · intro i hi
    rw [List.length_append, List.length_singleton] at hi
    rcases Nat.lt_or_ge i O.length with hlt | hge
    · have hm := oat_mem hlt
      have hkb := h.kb _ hm
      rw [oat_snoc_lt k hlt, hbf _ hm, hvf _ hm, node_snoc hk i (by omega)]
      rcases hlast with ⟨e, h0⟩ | ⟨j, hj, e⟩
      · omega
      · unfold comeW
        rw [e]
        by_cases hij : i = j
        · subst hij
          rw [show i + 2 = O.length + 1 by omega, node_snoc_last]
          exact block_other (block_other (block_set (alloc_old (h.ent i hlt) _) 3 _) hkb.2.2 2 _) hkb.1 1 _
        · rw [node_snoc hk (i + 2) (by omega)]
          refine block_other (block_other (block_other (alloc_old (h.ent i hlt) _) ?_ 3 _) hkb.2.2 2 _) hkb.1 1 _
          intro e2
          exact hij (oat_inj h.nd hlt (by omega) (h.binj _ _ hm (oat_mem (by omega)) e2))
    · obtain rfl : i = O.length := by omega
      rw [oat_snoc_eq, upd_same, upd_same, node_snoc hk _ (Nat.le_refl _), show O.length + 2 = (O ++ [k]).length + 1 by simp, node_end]
      have hltn : node bf e0 O O.length < w.heap.size := by
        rcases hlast with ⟨e, _⟩ | ⟨j, hj, e⟩
        · rw [e]; exact hle
        · rw [e]; exact hltq _ (oat_mem (by omega))
      exact block_other (block_other (block_other (alloc_block w _) (by omega) 3 _) (by omega) 2 _) (by omega) 1 _
  · intro q hq
    rw [List.mem_append, List.mem_singleton] at hq
    rcases hq with hq | rfl
    · rw [hbf q hq]; exact h.kb q hq
    · rw [upd_same]; exact ⟨by omega, by omega, by omega⟩
  · intro q r hq hr e
    rw [List.mem_append, List.mem_singleton] at hq hr
    rcases hq with hq | rfl <;> rcases hr with hr | rfl
    · rw [hbf q hq, hbf r hr] at e; exact h.binj q r hq hr e
    · rw [hbf q hq, upd_same] at e; have := hltq q hq; omega
    · rw [hbf r hr, upd_same] at e; have := hltq r hr; omega
    · rfl

theorem node_own (bf : Int → Nat) (e0 b s : Nat) (O : List Int) : ∀ i, Own b s e0 O bf (node bf e0 O i)
  | 0 => .inr (.inr (.inl rfl))
  | i + 1 => by
    by_cases h : i < O.length
    · rw [node_pos bf e0 O h]; exact .inr (.inr (.inr ⟨_, oat_mem h, rfl⟩))
    · simp only [node]; rw [if_neg h]; exact .inr (.inr (.inl rfl))
theorem comeW_keeps (T : Kinds) (w : World) (b s e0 : Nat) (O : List Int) (bf : Int → Nat) (i : Nat) (k : Int) (v : Value) (len : Int) : Keeps (Own b s e0 O bf) w (comeW T w b e0 (node bf e0 O i) k v len) :=
  ((((Keeps.refl _ w).alloc _).setCell (p := ⟨node bf e0 O i, 3, none⟩) (.inr (node_own bf e0 b s O i)) _).setCell (p := ⟨e0, 2, none⟩) (.inr (.inr (.inr (.inl rfl)))) _).setCell (p := ⟨b, 1, none⟩) (.inr (.inl rfl)) _
theorem comeW_size (T : Kinds) (w : World) (b e0 last : Nat) (k : Int) (v : Value) (len : Int) : (comeW T w b e0 last k v len).heap.size = w.heap.size + 1 := by simp [comeW]

/-- A slot is stored. -/
theorem TabAt.store (h : TabAt T w b s e0 K O bf vf) (x : Nat) (v : Option Int) : TabAt T (w.setCell ⟨s, x, none⟩ (slotVal bf v)) b s e0 (K.set x v) O bf vf := by
  refine ⟨?_, ?_, block_other h.sent (Ne.symm h.se) x _, fun i hi => block_other (h.ent i hi) (h.kb _ (oat_mem hi)).2.1 x _, h.bs, h.be, h.se, h.kb, h.binj, h.nd⟩
  · rw [List.length_set]
    exact block_other h.tab h.bs x _
  · rw [← slotCells_set]
    exact block_set h.slots x _

/-- A key's value is stored. -/
theorem TabAt.value (h : TabAt T w b s e0 K O bf vf) {k : Int} (hk : k ∈ O) (v : Value) : TabAt T (w.setCell ⟨bf k, 1, none⟩ v) b s e0 K O bf (upd vf k v) := by
  have hkb := h.kb k hk
  refine ⟨block_other h.tab (Ne.symm hkb.1) 1 _, block_other h.slots (Ne.symm hkb.2.1) 1 _, block_other h.sent (Ne.symm hkb.2.2) 1 _, ?_, h.bs, h.be, h.se, h.kb, h.binj, h.nd⟩
  intro i hi
  by_cases e : oat O i = k
  · rw [e, upd_same]
    have := block_set (h.ent i hi) 1 v
    rw [e] at this
    exact this
  · rw [upd_other _ _ e]
    exact block_other (h.ent i hi) (fun e2 => e (h.binj _ _ (oat_mem hi) hk e2)) 1 _

theorem node_inj (h : TabAt T w b s e0 K O bf vf) : ∀ x y, x ≤ O.length → y ≤ O.length → node bf e0 O x = node bf e0 O y → x = y := by
  intro x y hx hy e
  cases x with
  | zero =>
    cases y with
    | zero => rfl
    | succ y =>
      rw [node_pos bf e0 O (by omega)] at e
      exact absurd e.symm (h.kb _ (oat_mem (by omega))).2.2
  | succ x =>
    rw [node_pos bf e0 O (by omega)] at e
    cases y with
    | zero => exact absurd e (h.kb _ (oat_mem (by omega))).2.2
    | succ y =>
      rw [node_pos bf e0 O (by omega)] at e
      rw [oat_inj h.nd (by omega) (by omega) (h.binj _ _ (oat_mem (by omega)) (oat_mem (by omega)) e)]

theorem oat_erase {O : List Int} {i j : Nat} : oat (O.eraseIdx i) j = if j < i then oat O j else oat O (j + 1) := by
  unfold oat
  rw [List.getElem?_eraseIdx]
  split <;> rfl
theorem node_erase_le {bf : Int → Nat} {e0 : Nat} {O : List Int} {i : Nat} (hi : i < O.length) : ∀ j, j ≤ i → node bf e0 (O.eraseIdx i) j = node bf e0 O j
  | 0, _ => rfl
  | j + 1, h => by
    simp only [node]
    rw [List.length_eraseIdx_of_lt hi, if_pos (by omega), if_pos (by omega), oat_erase, if_pos (by omega)]
theorem node_erase_gt {bf : Int → Nat} {e0 : Nat} {O : List Int} {i : Nat} (hi : i < O.length) : ∀ j, i < j → node bf e0 (O.eraseIdx i) j = node bf e0 O (j + 1)
  | 0, h => by omega
  | j + 1, h => by
    simp only [node]
    rw [List.length_eraseIdx_of_lt hi, oat_erase, if_neg (show ¬ j < i by omega)]
    by_cases hj : j < O.length - 1
    · rw [if_pos hj, if_pos (by omega)]
    · rw [if_neg hj, if_neg (by omega)]

/-- The world behind the leaving of an entry. -/
def leaveW (w : World) (b a c : Nat) (len : Int) : World :=
  ((w.setCell ⟨a, 3, none⟩ (.pointer (some ⟨c, 0, none⟩))).setCell ⟨c, 2, none⟩ (.pointer (some ⟨a, 0, none⟩))).setCell ⟨b, 1, none⟩ (.int .i64 len)

theorem leaveW_keeps (w : World) (b s e0 : Nat) (O : List Int) (bf : Int → Nat) (i j : Nat) (len : Int) : Keeps (Own b s e0 O bf) w (leaveW w b (node bf e0 O i) (node bf e0 O j) len) :=
  (((Keeps.refl _ w).setCell (p := ⟨node bf e0 O i, 3, none⟩) (.inr (node_own bf e0 b s O i)) _).setCell (p := ⟨node bf e0 O j, 2, none⟩) (.inr (node_own bf e0 b s O j)) _).setCell (p := ⟨b, 1, none⟩) (.inr (.inl rfl)) _
theorem ent_leave {w : World} {X a c p q b : Nat} {k len : Int} {v : Value} {t : TypeId} (h : w.heap[X]? = some (.cells (entCells k v p q) t (0, 0))) (hb : X ≠ b) :
    (leaveW w b a c len).heap[X]? = some (.cells (entCells k v (if X = c then a else p) (if X = a then c else q)) t (0, 0)) := by
  unfold leaveW
  refine block_other ?_ hb 1 _
  by_cases h1 : X = a <;> by_cases h2 : X = c
  · rw [if_pos h1, if_pos h2, ← h1, ← h2]
    exact block_set (block_set h 3 _) 2 _
  · rw [if_pos h1, if_neg h2, ← h1]
    exact block_other (block_set h 3 _) h2 2 _
  · rw [if_neg h1, if_pos h2, ← h2]
    exact block_set (block_other h h1 3 _) 2 _
  · rw [if_neg h1, if_neg h2]
    exact block_other (block_other h h1 3 _) h2 2 _

theorem TabAt.leave (h : TabAt T w b s e0 K O bf vf) {i : Nat} (hi : i < O.length) :
    TabAt T (leaveW w b (node bf e0 O i) (node bf e0 O (i + 2)) (O.length - 1 : Nat)) b s e0 K (O.eraseIdx i) bf vf := by
  have hnb : ∀ j, j ≤ O.length → node bf e0 O j ≠ b ∧ node bf e0 O j ≠ s := by
    intro j hj
    cases j with
    | zero => exact ⟨Ne.symm h.be, Ne.symm h.se⟩
    | succ j => rw [node_pos bf e0 O (by omega)]; exact ⟨(h.kb _ (oat_mem (by omega))).1, (h.kb _ (oat_mem (by omega))).2.1⟩
  have hc : ∃ ci, ci ≤ O.length ∧ node bf e0 O (i + 2) = node bf e0 O ci ∧ ((ci = i + 2 ∧ i + 2 ≤ O.length) ∨ (ci = 0 ∧ i + 1 = O.length)) := by
    by_cases h2 : i + 2 ≤ O.length
    · exact ⟨i + 2, h2, rfl, .inl ⟨rfl, h2⟩⟩
    · exact ⟨0, Nat.zero_le _, by rw [show i + 2 = O.length + 1 by omega, node_end]; rfl, .inr ⟨rfl, by omega⟩⟩
  obtain ⟨ci, hci, hce, hcc⟩ := hc
  have hlen : (O.eraseIdx i).length = O.length - 1 := List.length_eraseIdx_of_lt hi
  have hab := hnb i (by omega)
  have hcb := hnb ci hci
  rw [← hce] at hcb
  have hsub : ∀ q, q ∈ O.eraseIdx i → q ∈ O := fun q hq => List.mem_of_mem_eraseIdx hq
  have hX : ∀ jx, jx ≤ O.length → ((node bf e0 O jx = node bf e0 O (i + 2)) ↔ jx = ci) ∧ ((node bf e0 O jx = node bf e0 O i) ↔ jx = i) := by
    intro jx hj
    rw [hce]
    exact ⟨⟨fun e => node_inj h _ _ hj hci e, fun e => by rw [e]⟩, ⟨fun e => node_inj h _ _ hj (by omega) e, fun e => by rw [e]⟩⟩
  refine ⟨?_, ?_, ?_, ?_, h.bs, h.be, h.se, fun q hq => h.kb q (hsub q hq), fun k q hk hq => h.binj k q (hsub k hk) (hsub q hq), h.nd.sublist (List.eraseIdx_sublist ..)⟩
  · rw [hlen]
    have := block_set (block_other (block_other h.tab (Ne.symm hab.1) 3 (.pointer (some ⟨node bf e0 O (i + 2), 0, none⟩))) (Ne.symm hcb.1) 2 (.pointer (some ⟨node bf e0 O i, 0, none⟩))) 1 (.int .i64 (O.length - 1 : Nat))
    exact this
  · exact block_other (block_other (block_other h.slots (Ne.symm hab.2) 3 _) (Ne.symm hcb.2) 2 _) (Ne.symm h.bs) 1 _
  · have := ent_leave (a := node bf e0 O i) (c := node bf e0 O (i + 2)) (len := (O.length - 1 : Nat)) h.sent (Ne.symm h.be)
    rw [this, hlen]
    have h0 := hX 0 (Nat.zero_le _)
    rw [show node bf e0 O 0 = e0 from rfl] at h0
    congr 3
    · by_cases e : 0 = ci
      · rw [if_pos (h0.1.2 e), node_erase_le hi _ (by omega)]
        congr 1
        omega
      · rw [if_neg (fun q => e (h0.1.1 q)), node_erase_gt hi _ (by omega)]
        congr 1
        omega
    · by_cases e : 0 = i
      · rw [if_pos (h0.2.2 e), node_erase_gt hi _ (by omega)]
        congr 1
        omega
      · rw [if_neg (fun q => e (h0.2.1 q)), node_erase_le hi _ (by omega)]
  · intro j' hj'
    rw [hlen] at hj'
    have key : ∀ j, j < O.length → j ≠ i → oat (O.eraseIdx i) j' = oat O j → (if j < i then j' = j else j' + 1 = j) →
        (leaveW w b (node bf e0 O i) (node bf e0 O (i + 2)) (O.length - 1 : Nat)).heap[bf (oat (O.eraseIdx i) j')]? = some (.cells (entCells (oat (O.eraseIdx i) j') (vf (oat (O.eraseIdx i) j')) (node bf e0 (O.eraseIdx i) j') (node bf e0 (O.eraseIdx i) (j' + 2))) T.ent (0, 0)) := by
      intro j hj hji e hjj
      rw [e]
      have := ent_leave (a := node bf e0 O i) (c := node bf e0 O (i + 2)) (len := (O.length - 1 : Nat)) (h.ent j hj) (h.kb _ (oat_mem hj)).1
      rw [this]
      have hx := hX (j + 1) (by omega)
      rw [node_pos bf e0 O hj] at hx
      congr 3
      · by_cases q : j + 1 = ci
        · rw [if_pos (hx.1.2 q), node_erase_le hi _ (by split at hjj <;> omega)]
          congr 1
          split at hjj <;> omega
        · rw [if_neg (fun z => q (hx.1.1 z))]
          split at hjj
          · rw [node_erase_le hi _ (by omega), hjj]
          · rw [node_erase_gt hi _ (by omega), hjj]
      · by_cases q : j + 1 = i
        · rw [if_pos (hx.2.2 q)]
          split at hjj
          · rw [node_erase_gt hi _ (by omega)]
            congr 1
            omega
          · omega
        · rw [if_neg (fun z => q (hx.2.1 z))]
          split at hjj
          · rw [node_erase_le hi _ (by omega), hjj]
          · rw [node_erase_gt hi _ (by omega), ← hjj]
    by_cases hlt : j' < i
    · exact key j' (by omega) (by omega) (by rw [oat_erase, if_pos hlt]) (by rw [if_pos hlt])
    · exact key (j' + 1) (by omega) (by omega) (by rw [oat_erase, if_neg hlt]) (by rw [if_neg (by omega)])

end
end Go.Proofs.YtmhinalgjfiliaaDoor
