
/- A tx that tells what was asked of it, as it lies: its box, its words, what it has told; and what a call leaves alone (layer 25). No statement of the seat is proved here. -/
import Derived.Test.YtiacennkjjfifabTkW
import Derived.Test.YtiacennkjjfifabATail
import Derived.Test.YtiacennkjjfifabARoundC
namespace Go.Proofs.Ytiacennkjjfifab
open Go.RowKit

theorem hid {p : Prop} (h : p) : Hid p := h
/-- Where words lie: nowhere, if there is no room for any. -/
def adr (g c : Nat) : Option Addr := if c = 0 then none else some ⟨g, 0, none⟩
theorem adr_pos {g c : Nat} (h : c ≠ 0) : adr g c = some ⟨g, 0, none⟩ := if_neg h
/-- What was asked for, as values. -/
def accV (l : List Acc) : List Value := l.flatMap fun q => [.bool q.p, .int .u64 q.a, .int .u64 q.x]
theorem accV_append (a b : List Acc) : accV (a ++ b) = accV a ++ accV b := by unfold accV; rw [List.flatMap_append]
theorem accV_len (a : List Acc) : (accV a).length = a.length * 3 := by
  induction a with
  | nil => rfl
  | cons q a ih => unfold accV at *; simp [ih]; omega
/-- The blocks of a tx: its box, its words, what it has told. -/
def own (w : World) (b g : Nat) (k : Nat) : Prop := k = b ∨ k = g ∨ ∃ x v y z t fr, w.heap[b]? = some (.cells #[x, v, y, z] t fr) ∧ v.ownBlock = some k
/-- A tx: its box in the block b, its words in the block g. -/
structure WdAt (T : TypeId) (w : World) (b g c : Nat) (s : Wd) : Prop where
  lg : ∃ v, w.heap[b]? = some (.cells #[.slice (adr g c) s.W.length c, v, .int .i64 s.g, .int .i64 s.c] T (0, 0)) ∧ w.ownsRow 0 98 3 v s.L.length (accV s.L) ∧ ∀ k, v.ownBlock = some k → k ≠ b ∧ k ≠ g
  row : (c = 0 ∧ g = b) ∨ (b ≠ g ∧ ∃ cur, w.heap[g]? = some (.cells cur 22 (0, 0)) ∧ ∀ i, i < s.W.length → cur[i]? = some (.int .u64 (oat s.W i)))
  cap : s.W.length ≤ c
  ok : s.Ok
/-- All but the blocks of the tx, and those of E, lie as they lay; what the tx owns besides is new. -/
structure Kq (E : Nat → Prop) (b g : Nat) (w w' : World) : Prop where
  k : Keeps (fun i => own w b g i ∨ E i) w w'
  f : ∀ i, own w' b g i → own w b g i ∨ w.heap.size ≤ i
def No : Nat → Prop := fun _ => False
/-- A block that is not the tx's, and what lies there. -/
structure Lo (w : World) (b g q : Nat) (o : Obj) : Prop where
  at_ : w.heap[q]? = some o
  no : ¬ own w b g q

section
variable {T : TypeId} {E F : Nat → Prop} {w w' X X' : World} {b g c q : Nat} {s s' : Wd} {o o' : Obj}
theorem own_like (h : w'.heap[b]? = w.heap[b]?) (k : Nat) : own w' b g k ↔ own w b g k := by unfold own; rw [h]
theorem WdAt.ltb (h : WdAt T w b g c s) : b < w.heap.size := by obtain ⟨v, h1, _⟩ := h.lg; exact lt_of_block h1
theorem WdAt.ltg (h : WdAt T w b g c s) : g < w.heap.size := by
  rcases h.row with ⟨_, e⟩ | ⟨_, cur, h1, _⟩
  · rw [e]; exact h.ltb
  · exact lt_of_block h1
theorem WdAt.lto (h : WdAt T w b g c s) {k : Nat} (hk : own w b g k) : k < w.heap.size := by
  rcases hk with rfl | rfl | ⟨x, v, y, z, t, fr, h1, h2⟩
  · exact h.ltb
  · exact h.ltg
  · obtain ⟨v', h3, h4, _⟩ := h.lg
    rw [h3] at h1
    simp at h1
    obtain ⟨⟨_, rfl, _⟩, _⟩ := h1
    exact (own_block h4 h2).1
theorem WdAt.kept {S : Nat → Prop} (h : WdAt T w b g c s) (k : Keeps S w w') (hS : ∀ i, own w b g i → ¬ S i) : WdAt T w' b g c s := by
  obtain ⟨v, h1, h2, h3⟩ := h.lg
  refine ⟨⟨v, (k.block b h.ltb (hS b (.inl rfl))).trans h1, own_keeps h2 k (fun i hi => hS i (.inr (.inr ⟨_, _, _, _, _, _, h1, hi⟩))), h3⟩, ?_, h.cap, h.ok⟩
  rcases h.row with h4 | ⟨h0, cur, h4, h5⟩
  · exact .inl h4
  · exact .inr ⟨h0, cur, (k.block g (lt_of_block h4) (hS g (.inr (.inl rfl)))).trans h4, h5⟩
theorem own_kept {S : Nat → Prop} (hb : b < w.heap.size) (k : Keeps S w w') (hS : ∀ i, own w b g i → ¬ S i) (i : Nat) : own w' b g i ↔ own w b g i := own_like (k.block b hb (hS b (.inl rfl))) i
theorem WdAt.like (h : WdAt T w b g c s) (e : X.heap = w.heap) : WdAt T X b g c s := by
  obtain ⟨v, h1, h2, h3⟩ := h.lg
  refine ⟨⟨v, by rw [e]; exact h1, own_keep h2 (fun g _ => by rw [e]), h3⟩, ?_, h.cap, h.ok⟩
  rcases h.row with h1 | ⟨h0, cur, h1, h2⟩
  · exact .inl h1
  · exact .inr ⟨h0, cur, by rw [e]; exact h1, h2⟩
theorem Kq.refl (E : Nat → Prop) (b g : Nat) (w : World) : Kq E b g w w := ⟨Keeps.refl _ w, fun _ h => .inl h⟩
theorem Kq.trans (h : Kq E b g w X) (k : Kq E b g X X') : Kq E b g w X' := by
  refine ⟨h.k.step k.k (fun i hi e => ?_), fun i hi => ?_⟩
  · rcases e with e | e
    · rcases h.f i e with q | q
      · exact .inl q
      · omega
    · exact .inr e
  · rcases k.f i hi with q | q
    · exact h.f i q
    · exact .inr (Nat.le_trans h.k.size q)
theorem Kq.mono (h : Kq E b g w X) (hE : ∀ i, i < w.heap.size → E i → F i) : Kq F b g w X := ⟨h.k.mono (fun i hi e => e.imp id (hE i hi)), h.f⟩
theorem Kq.step (h : Kq E b g w X) (k : Kq F b g X X') (hF : ∀ i, i < w.heap.size → F i → E i) : Kq E b g w X' := by
  refine ⟨h.k.step k.k (fun i hi e => ?_), fun i hi => ?_⟩
  · rcases e with e | e
    · rcases h.f i e with q | q
      · exact .inl q
      · omega
    · exact .inr (hF i hi e)
  · rcases k.f i hi with q | q
    · exact h.f i q
    · exact .inr (Nat.le_trans h.k.size q)
theorem Kq.of {S : Nat → Prop} (hb : b < w.heap.size) (k : Keeps S w w') (hS : ∀ i, own w b g i → ¬ S i) : Kq S b g w w' := ⟨k.mono (fun _ _ e => .inr e), fun i hi => .inl ((own_kept hb k hS i).1 hi)⟩
theorem Kq.like (k : Kq E b g w X) (e1 : X'.heap = X.heap) (e2 : X'.os = X.os) (e3 : X'.tape = X.tape) (e4 : X'.output = X.output) : Kq E b g w X' :=
  ⟨⟨e2.trans k.k.os, e3.trans k.k.tape, e4.trans k.k.output, by rw [e1]; exact k.k.size, fun i hi hs => by rw [e1]; exact k.k.block i hi hs⟩, fun i hi => k.f i ((own_like (by rw [e1]) i).1 hi)⟩
theorem Lo.kq (h : Lo w b g q o) (k : Kq E b g w w') (hE : ¬ E q) : Lo w' b g q o := by
  refine ⟨(k.k.block q (lt_of_block h.at_) (fun e => e.elim h.no hE)).trans h.at_, fun e => ?_⟩
  rcases k.f q e with r | r
  · exact h.no r
  · have := lt_of_block h.at_; omega
theorem Lo.lt (h : Lo w b g q o) : q < w.heap.size := lt_of_block h.at_
theorem Lo.like (h : Lo w b g q o) (e : X.heap = w.heap) : Lo X b g q o := ⟨by rw [e]; exact h.at_, fun e2 => h.no ((own_like (by rw [e]) q).1 e2)⟩
theorem keeps_new (w : World) (o : Obj) : Keeps (fun _ => False) w (w.alloc o) := (Keeps.refl _ w).alloc o
theorem Lo.new (h : WdAt T w b g c s) (o : Obj) : Lo (w.alloc o) b g w.heap.size o := by
  refine ⟨alloc_block w o, fun e => ?_⟩
  have := h.lto ((own_kept h.ltb (keeps_new w o) (fun _ _ f => f) _).1 e)
  omega
theorem Lo.keeps {S : Nat → Prop} (h : Lo w b g q o) (hb : b < w.heap.size) (k : Keeps S w w') (hS : ∀ i, own w b g i → ¬ S i) (hq : ¬ S q) : Lo w' b g q o := h.kq (Kq.of hb k hS) hq
/-- From the world w on, the tx has come to s in the world X. -/
structure Hs (T : TypeId) (w : World) (b g c : Nat) (X : World) (s : Wd) : Prop where
  wd : WdAt T X b g c s
  k : Kq No b g w X
theorem Hs.start (h : WdAt T w b g c s) : Hs T w b g c w s := ⟨h, Kq.refl _ _ _ _⟩
theorem Hs.trans (h : Hs T w b g c X s) (k : Hs T X b g c X' s') : Hs T w b g c X' s' := ⟨k.wd, h.k.trans k.k⟩
theorem Hs.new (h : Hs T w b g c X s) (k : Keeps (fun _ => False) X X') : Hs T w b g c X' s := ⟨h.wd.kept k (fun _ _ f => f), h.k.trans ((Kq.of h.wd.ltb k (fun _ _ f => f)).mono (fun _ _ f => f.elim))⟩
theorem Hs.like (h : Hs T w b g c X s) (e1 : X'.heap = X.heap) (e2 : X'.os = X.os) (e3 : X'.tape = X.tape) (e4 : X'.output = X.output) : Hs T w b g c X' s := ⟨h.wd.like e1, h.k.like e1 e2 e3 e4⟩
theorem Hs.drewN (h : Hs T w b g c X s) (n : Nat) : Hs T w b g c (X.drewN n) s := h.like rfl rfl rfl rfl
theorem Hs.drew (h : Hs T w b g c X s) : Hs T w b g c X.drew s := h.like rfl rfl rfl rfl
/-- A change in blocks that are not the tx's, and are younger than w. -/
theorem Hs.step {S : Nat → Prop} (h : Hs T w b g c X s) (k : Keeps S X X') (hS : ∀ i, S i → w.heap.size ≤ i ∧ ¬ own X b g i) : Hs T w b g c X' s :=
  ⟨h.wd.kept k (fun i hi e => (hS i e).2 hi), h.k.step (Kq.of h.wd.ltb k (fun i hi e => (hS i e).2 hi)) (fun i hi e => by have := (hS i e).1; omega)⟩
theorem Hs.acc (h : Hs T w b g c X s) (k : Kq E b g X X') (wd : WdAt T X' b g c s') (hE : ∀ i, E i → w.heap.size ≤ i) : Hs T w b g c X' s' := ⟨wd, h.k.step k (fun i hi e => by have := hE i e; omega)⟩
theorem Lo.hs (h : Lo X b g q o) (k : Hs T X b g c X' s') : Lo X' b g q o := h.kq k.k (fun f => f)
theorem Lo.after (h : Lo X b g q o) (hb : b < X.heap.size) (k : Keeps (fun _ => False) X X') : Lo X' b g q o := h.keeps hb k (fun _ _ f => f) (fun f => f)
theorem Lo.set {cs : Array Value} {t : TypeId} {fr : Nat × Nat} (h : Lo w b g q (.cells cs t fr)) (i : Nat) (v : Value) : Lo (w.setCell ⟨q, i, none⟩ v) b g q (.cells (cs.setIfInBounds i v) t fr) := by
  have hb : q ≠ b := fun e => h.no (.inl e)
  exact ⟨block_set h.at_ i v, fun e => h.no ((own_like (Below.heap_setCell _ _ _ _ (Ne.symm hb)) q).1 e)⟩
theorem Lo.setOther (h : Lo w b g q o) {p i : Nat} (v : Value) (hp : Lo w b g p o') (hpq : q ≠ p) : Lo (w.setCell ⟨p, i, none⟩ v) b g q o := by
  have hb : p ≠ b := fun e => hp.no (.inl e)
  exact ⟨(Below.heap_setCell _ _ _ _ hpq).trans h.at_, fun e => h.no ((own_like (Below.heap_setCell _ _ _ _ (Ne.symm hb)) q).1 e)⟩
theorem Hs.set (h : Hs T w b g c X s) {p : Nat} (hp : Lo X b g p o') (hw : w.heap.size ≤ p) (i : Nat) (v : Value) : Hs T w b g c (X.setCell ⟨p, i, none⟩ v) s :=
  h.step (S := fun k => k = p) ((Keeps.refl (fun k => k = p) X).setCell (p := ⟨p, i, none⟩) (.inr rfl) v) (fun k e => by subst e; exact ⟨hw, hp.no⟩)
end

section
variable {T : TypeId} {w w' : World} {b g c t : Nat} {s : Wd}
theorem WdAt.cell0 (h : WdAt T w b g c s) : w.cell? ⟨b, 0, none⟩ = some (.slice (adr g c) s.W.length c) := by obtain ⟨v, h1, _⟩ := h.lg; rw [cell_of_block h1]; rfl
theorem WdAt.cell2 (h : WdAt T w b g c s) : w.cell? ⟨b, 2, none⟩ = some (.int .i64 s.g) := by obtain ⟨v, h1, _⟩ := h.lg; rw [cell_of_block h1]; rfl
theorem WdAt.cell3 (h : WdAt T w b g c s) : w.cell? ⟨b, 3, none⟩ = some (.int .i64 s.c) := by obtain ⟨v, h1, _⟩ := h.lg; rw [cell_of_block h1]; rfl
theorem WdAt.frozen (h : WdAt T w b g c s) (i : Nat) : w.frozen? ⟨b, i, none⟩ = false := by obtain ⟨v, h1, _⟩ := h.lg; exact frozen_of_block h1 i
theorem WdAt.wcell (h : WdAt T w b g c s) (i : Nat) (hi : i < s.W.length) : w.cell? ⟨g, i, none⟩ = some (.int .u64 (oat s.W i)) := by
  rcases h.row with ⟨h0, _⟩ | ⟨_, cur, h1, h2⟩
  · have := h.cap; omega
  · rw [cell_of_block h1, h2 i hi]
theorem WdAt.wfrozen (h : WdAt T w b g c s) (i : Nat) (hi : 0 < s.W.length) : w.frozen? ⟨g, i, none⟩ = false := by
  rcases h.row with ⟨h0, _⟩ | ⟨_, cur, h1, h2⟩
  · have := h.cap; omega
  · exact frozen_of_block h1 i
theorem WdAt.store (h : WdAt T w b g c s) (i : Nat) {x : Int} (hx : isW x) (hi : i < s.W.length) : WdAt T (w.setCell ⟨g, i, none⟩ (.int .u64 x)) b g c { s with W := s.W.set i x } ∧ Kq No b g w (w.setCell ⟨g, i, none⟩ (.int .u64 x)) := by
  obtain ⟨v, q1, q2, q3⟩ := h.lg
  rcases h.row with ⟨h0, _⟩ | ⟨hne, cur, h1, h2⟩
  · have := h.cap; omega
  have kb : (w.setCell ⟨g, i, none⟩ (.int .u64 x)).heap[b]? = w.heap[b]? := Below.heap_setCell _ _ _ _ hne
  refine ⟨⟨⟨v, by rw [List.length_set]; exact kb.trans q1, own_keep q2 (fun k hk => Below.heap_setCell _ _ _ _ (q3 k hk).2), q3⟩, .inr ⟨hne, _, block_set h1 i _, fun j hj => ?_⟩, by rw [List.length_set]; exact h.cap, ⟨fun y hy => ?_, by simpa using h.ok.2⟩⟩, ?_⟩
  · rw [List.length_set] at hj
    have hj2 := h2 j hj
    have hsz : j < cur.size := (Array.getElem?_eq_some_iff.1 hj2).1
    rw [Array.getElem?_setIfInBounds]
    by_cases e : i = j
    · subst e
      simp [hsz, oat, hi]
    · simp only [e, if_false]
      rw [hj2]
      simp [oat, e]
  · rcases List.mem_or_eq_of_mem_set hy with h1 | h1
    · exact h.ok.1 y h1
    · rw [h1]; exact hx
  · exact ⟨(Keeps.refl _ w).setCell (p := ⟨g, i, none⟩) (.inr (.inl (.inr (.inl rfl)))) _, fun k hk => .inl ((own_like kb k).1 hk)⟩
theorem WdAt.drewN (h : WdAt T w b g c s) (n : Nat) : WdAt T (w.drewN n) b g c s := h.like rfl
end
theorem info_acc : (Try.prog.info? 98).map (fun i => (i.zero, i.size, i.bytes)) = some (some (.agg #[.bool false, .int .u64 0, .int .u64 0]), 3, 24) := by kernel_rfl
/-- One more told. -/
theorem WdAt.tell {T : TypeId} {w : World} {b g c : Nat} {s : Wd} (h : WdAt T w b g c s) (hr : Rm s 1) (q : Acc) :
    ∃ v v' w', w.cell? ⟨b, 1, none⟩ = some v ∧ (Builtin.append_ #[63, 63] 63 #[v, .slice (some ⟨w.heap.size, 0, none⟩) 1 1]).run Try.prog (w.alloc (.cells #[.bool q.p, .int .u64 q.a, .int .u64 q.x] 98)) = .ok v' w' ∧ w'.heap[b]? = w.heap[b]? ∧ Keeps (own w b g) w w' ∧ (∃ a' c', v' = .slice a' (s.L.length + 1) c') ∧
      WdAt T (w'.setCell ⟨b, 1, none⟩ v') b g c (s.lg q) ∧ Kq No b g w (w'.setCell ⟨b, 1, none⟩ v') := by
  obtain ⟨v, q1, q2, q3⟩ := h.lg
  have k0 : Keeps (fun _ => False) w (w.alloc (.cells #[.bool q.p, .int .u64 q.a, .int .u64 q.x] 98)) := keeps_new w _
  have b0 := alloc_block w (.cells #[.bool q.p, .int .u64 q.a, .int .u64 q.x] 98)
  obtain ⟨v', w', r1, r2, r3, r4⟩ := own_push (P := Try.prog) (w.alloc (.cells #[.bool q.p, .int .u64 q.a, .int .u64 q.x] 98)) 0 63 63 98 _ 3 24 Try.underlying63 info_acc rfl (by decide) v s.L.length (accV s.L) (own_keeps q2 k0 (fun _ _ f => f)) ⟨w.heap.size, 0, none⟩ 1 1 [.bool q.p, .int .u64 q.a, .int .u64 q.x] rfl (fun j u hj => by
    rw [addr_add, Nat.zero_add, cell_of_block b0]
    simpa using hj) (by simp [Value.oneCell']) (by unfold Rm at hr; omega) (by decide) (Nat.zero_le _)
  have hvb : v.ownBlock ≠ some b := fun e => (q3 b e).1 rfl
  have hbl := h.ltb
  have kA : Keeps (own w b g) w w' := by
    exact ⟨r3.os.trans k0.os, r3.tape.trans k0.tape, r3.output.trans k0.output, Nat.le_trans k0.size r3.size, fun i hi hs => (r3.block i (by simp; omega) (fun e => hs (.inr (.inr ⟨_, _, _, _, _, _, q1, e.symm⟩)))).trans (k0.block i hi (fun f => f))⟩
  have kb : w'.heap[b]? = w.heap[b]? := (r3.block b (by simp; omega) (fun e => hvb e.symm)).trans (k0.block b hbl (fun f => f))
  have hnb : ∀ k, v'.ownBlock = some k → k ≠ b ∧ k ≠ g := by
    intro k hk
    rcases r4 with e | e
    · exact q3 k (by rw [← e]; exact hk)
    · have h1 := e k hk
      have h2 := h.ltg
      simp at h1
      omega
  have hbox : (w'.setCell ⟨b, 1, none⟩ v').heap[b]? = some (.cells #[.slice (adr g c) s.W.length c, v', .int .i64 s.g, .int .i64 s.c] T (0, 0)) := by
    rw [block_set (kb.trans q1) 1 v']; rfl
  have hll : (s.lg q).L.length = s.L.length + 1 := by simp [Wd.lg]
  have hla : accV (s.lg q).L = accV s.L ++ [.bool q.p, .int .u64 q.a, .int .u64 q.x] := by unfold Wd.lg; rw [accV_append]; rfl
  refine ⟨v, v', w', by rw [cell_of_block q1]; rfl, r1, kb, kA, ?_, ⟨⟨v', hbox, ?_, hnb⟩, ?_, h.cap, h.ok⟩, ?_⟩
  · rcases r2.2 with ⟨_, e⟩ | ⟨g', cap, cur, e, _⟩
    · omega
    · exact ⟨_, _, e⟩
  · rw [hll, hla]
    exact own_keep r2 (fun k hk => Below.heap_setCell _ _ _ _ (hnb k hk).1)
  · rcases h.row with h1 | ⟨h0, cur, h1, h2⟩
    · exact .inl h1
    · refine .inr ⟨h0, cur, ?_, h2⟩
      rw [Below.heap_setCell _ _ _ _ (Ne.symm h0)]
      have hg := lt_of_block h1
      exact ((r3.block g (by simp; omega) (fun e => (q3 g e.symm).2 rfl)).trans (k0.block g hg (fun f => f))).trans h1
  · refine ⟨(kA.mono (fun i _ e => .inl e)).setCell (p := ⟨b, 1, none⟩) (.inr (.inl (.inl rfl))) v', fun k hk => ?_⟩
    rcases hk with e | e | ⟨x, u, y, z, t, fr, e1, e2⟩
    · exact .inl (.inl e)
    · exact .inl (.inr (.inl e))
    · rw [hbox] at e1
      simp at e1
      obtain ⟨⟨_, rfl, _⟩, _⟩ := e1
      rcases r4 with e | e
      · exact .inl (.inr (.inr ⟨_, _, _, _, _, _, q1, by rw [← e]; exact e2⟩))
      · have h1 := e k e2
        simp at h1
        exact .inr (by omega)
theorem hmxp : Try.prog.follows .mixedOrders = true := by kernel_rfl
theorem wp_held_end {P : Program} {ops : Array Oper} {Q : Exit → Act → World → Prop} {id : Nat} {a : Act} {w : World} {S : World → Prop} (N : Nat) (hN : ops.size = N) (hm : P.follows .mixedOrders = true)
    (h : wpAnyH P .any ops (atEnd (Q .normal)) S N (Array.replicate N false) a w.drew) : (Code.region id ops true).wp P Q a w := by
  subst hN
  exact Code.wp_mono (fun e a w h => by cases e <;> first | exact h | exact h.elim) (wp_region_held hm h)
end Go.Proofs.Ytiacennkjjfifab
