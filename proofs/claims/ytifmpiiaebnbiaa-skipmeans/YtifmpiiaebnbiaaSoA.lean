
/- Two txs of the statement's beside one another, and the plain set's row (layer 22). No statement of the seat is proved here. -/
import Derived.Test.YtifmpiiaebnbiaaSlA
import Derived.Test.YtifmpiiaebnbiaaSkOpen
import Derived.Test.YtifmpiiaebnbiaaSkOb
import Derived.Test.YtifmpiiaebnbiaaSkR
import Derived.Test.YtifmpiiaebnbiaaSnJ
namespace Go.Proofs.Ytifmpiiaebnbiaa
open Go.RowKit

def Wd.mute (s : Wd) : Wd := { s with L := [] }
theorem WdAt.mute {T : TypeId} {w : World} {b g c : Nat} {s : Wd} (h : WdAt T w b g c s) : Hs T w b g c (w.setCell ⟨b, 1, none⟩ (.slice none 0 0)) s.mute := by
  obtain ⟨v, q1, q2, q3⟩ := h.lg
  have hbox : (w.setCell ⟨b, 1, none⟩ (.slice none 0 0)).heap[b]? = some (.cells #[.slice (adr g c) s.W.length c, .slice none 0 0, .int .i64 s.g, .int .i64 s.c] T (0, 0)) := by
    rw [block_set q1 1 _]; rfl
  have kp : Keeps (own w b g) w (w.setCell ⟨b, 1, none⟩ (.slice none 0 0)) := (Keeps.refl _ w).setCell (p := ⟨b, 1, none⟩) (.inr (.inl rfl)) _
  refine ⟨⟨⟨_, hbox, ⟨rfl, .inl ⟨rfl, rfl⟩⟩, fun k hk => by simp [Value.ownBlock] at hk⟩, ?_, h.cap, h.ok⟩, ⟨kp.mono (fun i _ e => .inl e), fun i hi => .inl ?_⟩⟩
  · rcases h.row with h1 | ⟨h0, cur, h1, h2⟩
    · exact .inl h1
    · exact .inr ⟨h0, cur, (Below.heap_setCell _ _ _ _ (Ne.symm h0)).trans h1, h2⟩
  · rcases hi with e | e | ⟨x, v', y, z, t, fr, e1, e2⟩
    · exact .inl e
    · exact .inr (.inl e)
    · rw [hbox] at e1
      simp at e1
      obtain ⟨⟨_, rfl, _⟩, _⟩ := e1
      simp [Value.ownBlock] at e2
/-- Two txs of the statement's (b1, g1) and (b2, g2), from the world w on: what they have come to. -/
structure Dt (w : World) (b1 g1 c1 b2 g2 c2 : Nat) (X : World) (s1 s2 : Wd) : Prop where
  t : WdAt 27 X b1 g1 c1 s1
  r : WdAt 27 X b2 g2 c2 s2
  dj : ∀ i, own X b1 g1 i → ¬ own X b2 g2 i
  k : Keeps (fun i => own w b1 g1 i ∨ own w b2 g2 i) w X
  f1 : ∀ i, own X b1 g1 i → own w b1 g1 i ∨ w.heap.size ≤ i
  f2 : ∀ i, own X b2 g2 i → own w b2 g2 i ∨ w.heap.size ≤ i
section
variable {w X X' : World} {b1 g1 c1 b2 g2 c2 : Nat} {s1 s2 s' : Wd}
theorem Dt.tx (h : Dt w b1 g1 c1 b2 g2 c2 X s1 s2) (k : Hs 27 X b1 g1 c1 X' s') : Dt w b1 g1 c1 b2 g2 c2 X' s' s2 := by
  have hk : Keeps (own X b1 g1) X X' := k.k.k.mono (fun i _ e => e.elim id (fun f => f.elim))
  have ho := own_kept h.r.ltb hk (fun i hi e => h.dj i e hi)
  refine ⟨k.wd, h.r.kept hk (fun i hi e => h.dj i e hi), fun i e1 e2 => ?_, h.k.step hk (fun i hi e => ?_), fun i e => ?_, fun i e => h.f2 i ((ho i).1 e)⟩
  · have e2' := (ho i).1 e2
    rcases k.k.f i e1 with q | q
    · exact h.dj i q e2'
    · have := h.r.lto e2'; omega
  · rcases h.f1 i e with q | q
    · exact .inl q
    · omega
  · rcases k.k.f i e with q | q
    · exact h.f1 i q
    · exact .inr (Nat.le_trans h.k.size q)
theorem Dt.tp (h : Dt w b1 g1 c1 b2 g2 c2 X s1 s2) (k : Hs 27 X b2 g2 c2 X' s') : Dt w b1 g1 c1 b2 g2 c2 X' s1 s' := by
  have hk : Keeps (own X b2 g2) X X' := k.k.k.mono (fun i _ e => e.elim id (fun f => f.elim))
  have ho := own_kept h.t.ltb hk (fun i hi e => h.dj i hi e)
  refine ⟨h.t.kept hk (fun i hi e => h.dj i hi e), k.wd, fun i e1 e2 => ?_, h.k.step hk (fun i hi e => ?_), fun i e => h.f1 i ((ho i).1 e), fun i e => ?_⟩
  · have e1' := (ho i).1 e1
    rcases k.k.f i e2 with q | q
    · exact h.dj i e1' q
    · have := h.t.lto e1'; omega
  · rcases h.f2 i e with q | q
    · exact .inr q
    · omega
  · rcases k.k.f i e with q | q
    · exact h.f2 i q
    · exact .inr (Nat.le_trans h.k.size q)
/-- A change in blocks that are neither's, and are younger than w. -/
theorem Dt.step {S : Nat → Prop} (h : Dt w b1 g1 c1 b2 g2 c2 X s1 s2) (k : Keeps S X X') (hS : ∀ i, S i → w.heap.size ≤ i ∧ ¬ own X b1 g1 i ∧ ¬ own X b2 g2 i) : Dt w b1 g1 c1 b2 g2 c2 X' s1 s2 := by
  have h1 : ∀ i, own X b1 g1 i → ¬ S i := fun i hi e => (hS i e).2.1 hi
  have h2 : ∀ i, own X b2 g2 i → ¬ S i := fun i hi e => (hS i e).2.2 hi
  have o1 := own_kept h.t.ltb k h1
  have o2 := own_kept h.r.ltb k h2
  exact ⟨h.t.kept k h1, h.r.kept k h2, fun i e1 e2 => h.dj i ((o1 i).1 e1) ((o2 i).1 e2), h.k.step k (fun i hi e => by have := (hS i e).1; omega), fun i e => h.f1 i ((o1 i).1 e), fun i e => h.f2 i ((o2 i).1 e)⟩
theorem Dt.new (h : Dt w b1 g1 c1 b2 g2 c2 X s1 s2) (k : Keeps (fun _ => False) X X') : Dt w b1 g1 c1 b2 g2 c2 X' s1 s2 := h.step k (fun _ f => f.elim)
theorem Dt.start (t : WdAt 27 w b1 g1 c1 s1) (r : WdAt 27 w b2 g2 c2 s2) (dj : ∀ i, own w b1 g1 i → ¬ own w b2 g2 i) : Dt w b1 g1 c1 b2 g2 c2 w s1 s2 := ⟨t, r, dj, Keeps.refl _ _, fun _ e => .inl e, fun _ e => .inl e⟩
theorem Dt.trans {s3 s4 : Wd} (h : Dt w b1 g1 c1 b2 g2 c2 X s1 s2) (k : Dt X b1 g1 c1 b2 g2 c2 X' s3 s4) : Dt w b1 g1 c1 b2 g2 c2 X' s3 s4 := by
  refine ⟨k.t, k.r, k.dj, h.k.step k.k (fun i hi e => ?_), fun i e => ?_, fun i e => ?_⟩
  · rcases e with e | e
    · rcases h.f1 i e with q | q
      · exact .inl q
      · omega
    · rcases h.f2 i e with q | q
      · exact .inr q
      · omega
  · rcases k.f1 i e with q | q
    · exact h.f1 i q
    · exact .inr (Nat.le_trans h.k.size q)
  · rcases k.f2 i e with q | q
    · exact h.f2 i q
    · exact .inr (Nat.le_trans h.k.size q)
/-- The plain set's row: in no block of theirs. -/
structure Sv (X : World) (b1 g1 b2 g2 : Nat) (v : Value) (L : List Int) : Prop where
  lies : Lies X v L
  cp : ∃ a c, v = .slice a L.length c ∧ L.length ≤ c
  ap : ∀ a n c, v = .slice (some a) n c → 0 < L.length → ¬ own X b1 g1 a.block ∧ ¬ own X b2 g2 a.block
theorem Sv.nil (X : World) (b1 g1 b2 g2 : Nat) : Sv X b1 g1 b2 g2 (.slice none 0 0) [] := ⟨⟨none, 0, rfl, fun i hi => by simp at hi⟩, ⟨none, 0, rfl, Nat.le_refl _⟩, fun a n c _ h => by simp at h⟩
theorem Sv.on {v : Value} {L : List Int} (h : Sv w b1 g1 b2 g2 v L) (d : Dt w b1 g1 c1 b2 g2 c2 X s1 s2) : Sv X b1 g1 b2 g2 v L := by
  have hcp := h.cp
  obtain ⟨a, c, rfl, hc⟩ := h.lies
  refine ⟨⟨a, c, rfl, fun i hi => ?_⟩, hcp, fun a' n' c' e h0 => ?_⟩
  · obtain ⟨g, off, rfl, hcell⟩ := hc i hi
    have hn := h.ap _ _ _ rfl (by omega)
    exact ⟨g, off, rfl, (World.cell?_of_block (d.k.block g (World.block_lt_of_cell? _ _ hcell) (fun q => q.elim hn.1 hn.2))).trans hcell⟩
  · injection e with e1 _ _
    subst e1
    obtain ⟨g, off, e2, hcell⟩ := hc 0 h0
    cases e2
    have hn := h.ap _ _ _ rfl h0
    have hl := World.block_lt_of_cell? _ _ hcell
    simp only at hn hl ⊢
    refine ⟨fun q => ?_, fun q => ?_⟩
    · rcases d.f1 g q with r | r
      · exact hn.1 r
      · omega
    · rcases d.f2 g q with r | r
      · exact hn.2 r
      · omega
theorem Sv.new {v : Value} {L : List Int} (h : Lies X v L) (hcp : ∃ a c, v = .slice a L.length c ∧ L.length ≤ c) (ht : WdAt 27 w b1 g1 c1 s1) (hr : WdAt 27 w b2 g2 c2 s2) (k : Keeps (fun _ => False) w X) (hn : ∀ a n c, v = .slice (some a) n c → 0 < L.length → w.heap.size ≤ a.block) : Sv X b1 g1 b2 g2 v L := by
  refine ⟨h, hcp, fun a n c e h0 => ?_⟩
  have q := hn a n c e h0
  refine ⟨fun p => ?_, fun p => ?_⟩
  · have := ht.lto ((own_kept ht.ltb k (fun _ _ f => f) _).1 p); omega
  · have := hr.lto ((own_kept hr.ltb k (fun _ _ f => f) _).1 p); omega
theorem Sv.kept {v : Value} {L : List Int} (h : Sv w b1 g1 b2 g2 v L) (ht : WdAt 27 w b1 g1 c1 s1) (hr : WdAt 27 w b2 g2 c2 s2) (k : Keeps (fun _ => False) w X) : Sv X b1 g1 b2 g2 v L :=
  ⟨h.lies.keeps k (fun _ _ _ _ f => f), h.cp, fun a n c e h0 => ⟨fun p => (h.ap a n c e h0).1 ((own_kept ht.ltb k (fun _ _ f => f) _).1 p), fun p => (h.ap a n c e h0).2 ((own_kept hr.ltb k (fun _ _ f => f) _).1 p)⟩⟩
end
end Go.Proofs.Ytifmpiiaebnbiaa
