
/- The law's world as it lies: the tx, the document's room, the queues (layer 23). No statement of the seat is proved here. -/
import Derived.Test.YtadbplbifjeghaaQxP
namespace Go.Proofs.Ytadbplbifjeghaa
open Go.RowKit

def ftp (x t b g b2 g2 : Nat) (lv : Value) (E : List Qe) : List Nat := [x, t, b, g, b2, g2] ++ (lv.ownBlock.toList ++ E.flatMap Qe.fp)
structure Wo (w0 w : World) (x t b g c b2 g2 c2 : Nat) (lv : Value) (E : List Qe) (s r : Wd) : Prop where
  bx : w.heap[x]? = some (.cells #[.pointer (some ⟨t, 0, none⟩), .pointer (some ⟨b2, 0, none⟩), lv] 31 (0, 0))
  tw : Tw w t b g c s
  rw : WdAt w b2 g2 c2 r
  row : Pw w lv E
  es : ∀ e ∈ E, EAt w e
  nd : (ftp x t b g b2 g2 lv E).Nodup
  lo : ∀ i ∈ ftp x t b g b2 g2 lv E, w0.heap.size ≤ i
  kp : Keeps (fun _ => False) w0 w
section
variable {w0 w w' : World} {x t b g c b2 g2 c2 : Nat} {lv : Value} {E : List Qe} {s r s' r' : Wd}
theorem in_x : x ∈ ftp x t b g b2 g2 lv E := by simp [ftp]
theorem in_t : t ∈ ftp x t b g b2 g2 lv E := by simp [ftp]
theorem in_b : b ∈ ftp x t b g b2 g2 lv E := by simp [ftp]
theorem in_g : g ∈ ftp x t b g b2 g2 lv E := by simp [ftp]
theorem in_b2 : b2 ∈ ftp x t b g b2 g2 lv E := by simp [ftp]
theorem in_g2 : g2 ∈ ftp x t b g b2 g2 lv E := by simp [ftp]
theorem in_row {k : Nat} (h : lv.ownBlock = some k) : k ∈ ftp x t b g b2 g2 lv E := by simp [ftp, h]
theorem in_e {e : Qe} {k : Nat} (he : e ∈ E) (h : k ∈ e.fp) : k ∈ ftp x t b g b2 g2 lv E :=
  List.mem_append_right _ (List.mem_append_right _ (List.mem_flatMap.2 ⟨e, he, h⟩))
theorem ftp_cases {k : Nat} (h : k ∈ ftp x t b g b2 g2 lv E) : k = x ∨ k = t ∨ k = b ∨ k = g ∨ k = b2 ∨ k = g2 ∨ lv.ownBlock = some k ∨ ∃ e ∈ E, k ∈ e.fp := by
  unfold ftp at h
  rcases List.mem_append.1 h with h | h
  · simp at h
    omega
  · rcases List.mem_append.1 h with h | h
    · exact .inr (.inr (.inr (.inr (.inr (.inr (.inl (by simpa using h)))))))
    · exact .inr (.inr (.inr (.inr (.inr (.inr (.inr (List.mem_flatMap.1 h)))))))
theorem Wo.lt (h : Wo w0 w x t b g c b2 g2 c2 lv E s r) : ∀ i ∈ ftp x t b g b2 g2 lv E, i < w.heap.size := fun i hi => by
  rcases ftp_cases hi with rfl | rfl | rfl | rfl | rfl | rfl | q | ⟨e, he, q⟩
  · exact lt_of_block h.bx
  · exact h.tw.tx.lt
  · exact h.tw.wd.ltb
  · exact h.tw.wd.ltg
  · exact h.rw.ltb
  · exact h.rw.ltg
  · exact h.row.lt q
  · exact (h.es e he).lt i q
/-- The six blocks are apart from each other, and from all else. -/
structure Six (x t b g b2 g2 : Nat) (lv : Value) (E : List Qe) : Prop where
  six : [x, t, b, g, b2, g2].Nodup
  rowd : ∀ k, lv.ownBlock = some k → k ∉ [x, t, b, g, b2, g2]
  ed : ∀ e ∈ E, ∀ k ∈ e.fp, k ∉ [x, t, b, g, b2, g2] ∧ lv.ownBlock ≠ some k
  fm : (E.flatMap Qe.fp).Nodup
theorem six_of (h : (ftp x t b g b2 g2 lv E).Nodup) : Six x t b g b2 g2 lv E := by
  unfold ftp at h
  obtain ⟨h1, h2, h3⟩ := List.nodup_append.1 h
  obtain ⟨h4, h5, h6⟩ := List.nodup_append.1 h2
  refine ⟨h1, fun k hk hm => h3 k hm k (List.mem_append_left _ (by rw [hk]; simp)) rfl, fun e he k hk => ⟨fun hm => h3 k hm k (List.mem_append_right _ (List.mem_flatMap.2 ⟨e, he, hk⟩)) rfl, fun hl => h6 k (by rw [hl]; simp) k (List.mem_flatMap.2 ⟨e, he, hk⟩) rfl⟩, h5⟩
theorem of_six (h : Six x t b g b2 g2 lv E) : (ftp x t b g b2 g2 lv E).Nodup := by
  unfold ftp
  refine List.nodup_append.2 ⟨h.six, List.nodup_append.2 ⟨by cases lv.ownBlock <;> simp, h.fm, fun a ha b hb hab => ?_⟩, fun a ha b hb hab => ?_⟩
  · subst hab
    obtain ⟨e, he, hk⟩ := List.mem_flatMap.1 hb
    exact (h.ed e he a hk).2 (by simpa using ha)
  · subst hab
    rcases List.mem_append.1 hb with hb | hb
    · exact h.rowd a (by simpa using hb) ha
    · obtain ⟨e, he, hk⟩ := List.mem_flatMap.1 hb
      exact (h.ed e he a hk).1 ha
/-- What lies beside it may change. -/
theorem Wo.step {S : Nat → Prop} (h : Wo w0 w x t b g c b2 g2 c2 lv E s r) (k : Keeps S w w') (hS : ∀ i, S i → i ∉ ftp x t b g b2 g2 lv E ∧ w0.heap.size ≤ i) : Wo w0 w' x t b g c b2 g2 c2 lv E s r :=
  ⟨(k.block _ (lt_of_block h.bx) (fun q => (hS _ q).1 in_x)).trans h.bx, h.tw.kept k (fun q => (hS _ q).1 in_t) (fun q => (hS _ q).1 in_b) (fun q => (hS _ q).1 in_g), h.rw.kept k (fun q => (hS _ q).1 in_b2) (fun q => (hS _ q).1 in_g2), h.row.keeps k (fun i hi q => (hS _ q).1 (in_row hi)), fun e he => (h.es e he).keeps k (fun i hi q => (hS _ q).1 (in_e he hi)), h.nd, h.lo, h.kp.step k (fun i hi q => by have := (hS i q).2; omega)⟩
theorem Wo.new (h : Wo w0 w x t b g c b2 g2 c2 lv E s r) (k : Keeps (fun _ => False) w w') : Wo w0 w' x t b g c b2 g2 c2 lv E s r := h.step k (fun _ f => f.elim)
theorem Wo.alloc (h : Wo w0 w x t b g c b2 g2 c2 lv E s r) (o : Obj) : Wo w0 (w.alloc o) x t b g c b2 g2 c2 lv E s r := h.new ((Keeps.refl _ w).alloc o)
theorem Wo.drewN (h : Wo w0 w x t b g c b2 g2 c2 lv E s r) (n : Nat) : Wo w0 (w.drewN n) x t b g c b2 g2 c2 lv E s r := h.new ((Keeps.refl _ w).drewN n)
/-- The tx has been asked. -/
theorem Wo.tx (h : Wo w0 w x t b g c b2 g2 c2 lv E s r) (k : Keeps (two b g) w w') (h' : Tw w' t b g c s') : Wo w0 w' x t b g c b2 g2 c2 lv E s' r := by
  have sx := six_of h.nd
  have d := sx.six
  simp only [List.nodup_cons, List.mem_cons, not_or] at d
  exact ⟨(k.block _ (lt_of_block h.bx) (fun q => by rcases q with q | q <;> omega)).trans h.bx, h', h.rw.kept k (fun q => by rcases q with q | q <;> omega) (fun q => by rcases q with q | q <;> omega), h.row.keeps k (fun i hi q => sx.rowd i hi (by rcases q with rfl | rfl <;> simp)), fun e he => (h.es e he).keeps k (fun i hi q => (sx.ed e he i hi).1 (by rcases q with rfl | rfl <;> simp)), h.nd, h.lo, h.kp.step k (fun i hi q => by
    have := h.lo b in_b
    have := h.lo g in_g
    rcases q with q | q <;> omega)⟩
/-- The document's room has been asked. -/
theorem Wo.rf (h : Wo w0 w x t b g c b2 g2 c2 lv E s r) (k : Keeps (two b2 g2) w w') (h' : WdAt w' b2 g2 c2 r') : Wo w0 w' x t b g c b2 g2 c2 lv E s r' := by
  have sx := six_of h.nd
  have d := sx.six
  simp only [List.nodup_cons, List.mem_cons, not_or] at d
  exact ⟨(k.block _ (lt_of_block h.bx) (fun q => by rcases q with q | q <;> omega)).trans h.bx, h.tw.kept k (fun q => by rcases q with q | q <;> omega) (fun q => by rcases q with q | q <;> omega) (fun q => by rcases q with q | q <;> omega), h', h.row.keeps k (fun i hi q => sx.rowd i hi (by rcases q with rfl | rfl <;> simp)), fun e he => (h.es e he).keeps k (fun i hi q => (sx.ed e he i hi).1 (by rcases q with rfl | rfl <;> simp)), h.nd, h.lo, h.kp.step k (fun i hi q => by
    have := h.lo b2 in_b2
    have := h.lo g2 in_g2
    rcases q with q | q <;> omega)⟩
/-- One queue of the document's has changed, and its room. -/
theorem Wo.one {A B : List Qe} {e e' : Qe} {S : Nat → Prop} (h : Wo w0 w x t b g c b2 g2 c2 lv (A ++ e :: B) s r) (k : Keeps S w w') (hS : ∀ i, S i → two b2 g2 i ∨ i ∈ e.fp) (hr : WdAt w' b2 g2 c2 r') (he' : EAt w' e') (hp : e'.p = e.p) (hf : ∀ i ∈ e'.fp, i ∈ e.fp ∨ w.heap.size ≤ i) (hnd : e'.fp.Nodup) : Wo w0 w' x t b g c b2 g2 c2 lv (A ++ e' :: B) s r' := by
  have sx := six_of h.nd
  have d := sx.six
  simp only [List.nodup_cons, List.mem_cons, not_or] at d
  have hm : e ∈ A ++ e :: B := by simp
  have e6 : ∀ i ∈ e.fp, i ∉ [x, t, b, g, b2, g2] := fun i hi => (sx.ed e hm i hi).1
  have ne6 : ∀ i, i ∈ [x, t, b, g] → ¬ S i := fun i hi q => by
    rcases hS i q with q | q
    · simp at hi
      rcases q with q | q <;> omega
    · exact e6 i q (by simp at hi ⊢; omega)
  have fm := sx.fm
  rw [List.flatMap_append, List.flatMap_cons] at fm
  obtain ⟨f1, f2, f3⟩ := List.nodup_append.1 fm
  obtain ⟨f4, f5, f6⟩ := List.nodup_append.1 f2
  have hoth : ∀ q ∈ A ++ e' :: B, q = e' ∨ (q ∈ A ∨ q ∈ B) := fun q hq => by simp at hq; rcases hq with hq | hq | hq <;> simp [hq]
  have hAB : ∀ q, (q ∈ A ∨ q ∈ B) → q ∈ A ++ e :: B ∧ ∀ i ∈ q.fp, i ∉ e.fp := fun q hq => by
    rcases hq with hq | hq
    · exact ⟨by simp [hq], fun i hi hie => f3 i (List.mem_flatMap.2 ⟨q, hq, hi⟩) i (List.mem_append_left _ hie) rfl⟩
    · exact ⟨by simp [hq], fun i hi hie => f6 i hie i (List.mem_flatMap.2 ⟨q, hq, hi⟩) rfl⟩
  have hlt : ∀ q ∈ A ++ e :: B, ∀ i ∈ q.fp, i < w.heap.size := fun q hq i hi => (h.es q hq).lt i hi
  have hptr : ptrs (A ++ e' :: B) = ptrs (A ++ e :: B) := by simp [ptrs, hp]
  have hsix : Six x t b g b2 g2 lv (A ++ e' :: B) := by
    refine ⟨sx.six, sx.rowd, fun q hq i hi => ?_, ?_⟩
    · rcases hoth q hq with rfl | hq
      · rcases hf i hi with q1 | q1
        · exact sx.ed e hm i q1
        · refine ⟨fun hin => ?_, fun hl => ?_⟩
          · have := h.lt i (List.mem_append_left _ hin)
            omega
          · have := h.row.lt hl
            omega
      · exact sx.ed q (hAB q hq).1 i hi
    · rw [List.flatMap_append, List.flatMap_cons]
      refine List.nodup_append.2 ⟨f1, List.nodup_append.2 ⟨hnd, f5, fun i hi j hj hij => ?_⟩, fun i hi j hj hij => ?_⟩
      · subst hij
        obtain ⟨q, hq, hiq⟩ := List.mem_flatMap.1 hj
        rcases hf i hi with q1 | q1
        · exact (hAB q (.inr hq)).2 i hiq q1
        · have := hlt q (hAB q (.inr hq)).1 i hiq; omega
      · subst hij
        rcases List.mem_append.1 hj with hj | hj
        · obtain ⟨q, hq, hiq⟩ := List.mem_flatMap.1 hi
          rcases hf i hj with q1 | q1
          · exact (hAB q (.inl hq)).2 i hiq q1
          · have := hlt q (hAB q (.inl hq)).1 i hiq; omega
        · exact f3 i hi i (List.mem_append_right _ hj) rfl
  have hlo : ∀ i ∈ ftp x t b g b2 g2 lv (A ++ e' :: B), w0.heap.size ≤ i := fun i hi => by
    rcases ftp_cases hi with rfl | rfl | rfl | rfl | rfl | rfl | q | ⟨q, hq, hiq⟩
    · exact h.lo _ in_x
    · exact h.lo _ in_t
    · exact h.lo _ in_b
    · exact h.lo _ in_g
    · exact h.lo _ in_b2
    · exact h.lo _ in_g2
    · exact h.lo _ (in_row q)
    · rcases hoth q hq with rfl | hq
      · rcases hf i hiq with q1 | q1
        · exact h.lo _ (in_e hm q1)
        · have := h.kp.size; omega
      · exact h.lo _ (in_e (hAB q hq).1 hiq)
  refine ⟨(k.block _ (lt_of_block h.bx) (ne6 _ (by simp))).trans h.bx, h.tw.kept k (ne6 _ (by simp)) (ne6 _ (by simp)) (ne6 _ (by simp)), hr, ?_, fun q hq => ?_, of_six hsix, hlo, h.kp.step k (fun i hi q => ?_)⟩
  · refine Pw.same ?_ hptr.symm
    refine h.row.keeps k (fun i hi q => ?_)
    rcases hS i q with q1 | q1
    · exact sx.rowd i hi (by rcases q1 with rfl | rfl <;> simp)
    · exact (sx.ed e hm i q1).2 hi
  · rcases hoth q hq with rfl | hq
    · exact he'
    · refine (h.es q (hAB q hq).1).keeps k (fun i hi q1 => ?_)
      rcases hS i q1 with q2 | q2
      · exact (sx.ed q (hAB q hq).1 i hi).1 (by rcases q2 with rfl | rfl <;> simp)
      · exact (hAB q hq).2 i hi q2
  · rcases hS i q with q1 | q1
    · have := h.lo b2 in_b2
      have := h.lo g2 in_g2
      rcases q1 with q1 | q1 <;> omega
    · have := h.lo _ (in_e hm q1); omega
/-- The row of queues has changed. -/
theorem Wo.rows {E' : List Qe} {lv' : Value} {wa : World} (h : Wo w0 w x t b g c b2 g2 c2 lv E s r) (k : Keeps (fun i => lv.ownBlock = some i) w wa) (hrow : Pw wa lv' E') (hown : ∀ i, lv'.ownBlock = some i → lv.ownBlock = some i ∨ w.heap.size ≤ i) (hes : ∀ e ∈ E', EAt w e ∧ (∀ i ∈ e.fp, w0.heap.size ≤ i)) (hsix : (∀ e ∈ E', ∀ i ∈ e.fp, i ∉ [x, t, b, g, b2, g2] ∧ lv.ownBlock ≠ some i ∧ i < w.heap.size) ∧ (E'.flatMap Qe.fp).Nodup) :
    Wo w0 (wa.setCell ⟨x, 2, none⟩ lv') x t b g c b2 g2 c2 lv' E' s r := by
  have sx := six_of h.nd
  have d := sx.six
  simp only [List.nodup_cons, List.mem_cons, not_or] at d
  have hxl : ∀ i, i ∈ [x, t, b, g, b2, g2] → lv.ownBlock ≠ some i := fun i hi q => sx.rowd i q hi
  have bxa : wa.heap[x]? = some (.cells #[.pointer (some ⟨t, 0, none⟩), .pointer (some ⟨b2, 0, none⟩), lv] 31 (0, 0)) := (k.block _ (lt_of_block h.bx) (hxl x (by simp))).trans h.bx
  have ks : Keeps (fun i => i = x) wa (wa.setCell ⟨x, 2, none⟩ lv') := (Keeps.refl (fun i => i = x) wa).setCell (p := ⟨x, 2, none⟩) (.inr rfl) _
  have kall : Keeps (fun i => lv.ownBlock = some i ∨ i = x) w (wa.setCell ⟨x, 2, none⟩ lv') := (k.mono fun _ _ q => .inl q).trans (ks.mono fun _ _ q => .inr q)
  have n6 : ∀ i, i ∈ [t, b, g, b2, g2] → ¬ (lv.ownBlock = some i ∨ i = x) := fun i hi q => by
    rcases q with q | q
    · exact hxl i (by simp at hi ⊢; omega) q
    · simp at hi; omega
  have hx' : lv'.ownBlock ≠ some x := fun q => by
    rcases hown x q with q | q
    · exact hxl x (by simp) q
    · have := lt_of_block h.bx; omega
  refine ⟨block_set bxa 2 _, h.tw.kept kall (n6 _ (by simp)) (n6 _ (by simp)) (n6 _ (by simp)), h.rw.kept kall (n6 _ (by simp)) (n6 _ (by simp)), hrow.keeps ks (fun i hi q => by subst q; exact hx' hi), fun e he => (hes e he).1.keeps kall (fun i hi q => ?_), of_six ⟨sx.six, fun i hi hin => ?_, fun e he i hi => ⟨(hsix.1 e he i hi).1, fun q => ?_⟩, hsix.2⟩, fun i hi => ?_, h.kp.step kall (fun i hi q => ?_)⟩
  · rcases q with q | q
    · exact (hsix.1 e he i hi).2.1 q
    · exact (hsix.1 e he i hi).1 (by rw [q]; simp)
  · rcases hown i hi with q | q
    · exact sx.rowd i q hin
    · have := h.lt i (List.mem_append_left _ hin)
      omega
  · rcases hown i q with q | q
    · exact (hsix.1 e he i hi).2.1 q
    · have := (hsix.1 e he i hi).2.2; omega
  · rcases ftp_cases hi with rfl | rfl | rfl | rfl | rfl | rfl | q | ⟨e, he, hie⟩
    · exact h.lo _ in_x
    · exact h.lo _ in_t
    · exact h.lo _ in_b
    · exact h.lo _ in_g
    · exact h.lo _ in_b2
    · exact h.lo _ in_g2
    · rcases hown i q with q | q
      · exact h.lo _ (in_row q)
      · have := h.kp.size; omega
    · exact (hes e he).2 i hie
  · rcases q with q | q
    · have := h.lo _ (in_row q); omega
    · have := h.lo x in_x; omega
theorem Wo.x0 (h : Wo w0 w x t b g c b2 g2 c2 lv E s r) : w.cell? ⟨x, 0, none⟩ = some (.pointer (some ⟨t, 0, none⟩)) := by rw [cell_of_block h.bx]; rfl
theorem Wo.x1 (h : Wo w0 w x t b g c b2 g2 c2 lv E s r) : w.cell? ⟨x, 1, none⟩ = some (.pointer (some ⟨b2, 0, none⟩)) := by rw [cell_of_block h.bx]; rfl
theorem Wo.x2 (h : Wo w0 w x t b g c b2 g2 c2 lv E s r) : w.cell? ⟨x, 2, none⟩ = some lv := by rw [cell_of_block h.bx]; rfl
theorem Wo.xf (h : Wo w0 w x t b g c b2 g2 c2 lv E s r) (i : Nat) : w.frozen? ⟨x, i, none⟩ = false := frozen_of_block h.bx i
theorem Wo.form (h : Wo w0 w x t b g c b2 g2 c2 lv E s r) : ∃ a k, lv = .slice a E.length k := h.row.form
theorem Wo.ptr (h : Wo w0 w x t b g c b2 g2 c2 lv E s r) {i : Nat} {e : Qe} (he : E[i]? = some e) : ∃ q k, lv = .slice (some ⟨q, 0, none⟩) E.length k ∧ w.cell? ⟨q, i, none⟩ = some (.pointer (some ⟨e.p, 0, none⟩)) := by
  obtain ⟨g', cap, e1, _, e2⟩ := h.row.at he
  exact ⟨g', cap, e1, e2⟩
end
end Go.Proofs.Ytadbplbifjeghaa
