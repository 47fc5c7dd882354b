
/- Rows of structs: as they lie, and of the call's own. No statement of the seat is proved here. -/
import Derived.Test.YthgkbmfnidehbaaDoorEvA
namespace Go.Proofs.YthgkbmfnidehbaaDoor
open Go.RowKit Go.Shelf

section
variable {α : Type}
def flatV (c : α → List Value) (L : List α) : List Value := L.flatMap c
theorem flatV_len {c : α → List Value} {sz : Nat} (hc : ∀ x, (c x).length = sz) (L : List α) : (flatV c L).length = L.length * sz := by
  induction L with
  | nil => simp [flatV]
  | cons i L ih =>
    have e : flatV c (i :: L) = c i ++ flatV c L := rfl
    rw [e, List.length_append, ih, hc, List.length_cons, Nat.succ_mul, Nat.add_comm]
theorem flatV_at {c : α → List Value} {sz : Nat} (hc : ∀ x, (c x).length = sz) : ∀ (L : List α) (k f : Nat) (hk : k < L.length), f < sz → (flatV c L)[k * sz + f]? = (c (L[k]))[f]?
  | [], k, f, hk, _ => absurd hk (by simp)
  | i :: L, 0, f, _, hf => by
    have e : flatV c (i :: L) = c i ++ flatV c L := rfl
    rw [e, Nat.zero_mul, Nat.zero_add, List.getElem?_append_left (by rw [hc]; exact hf)]
    rfl
  | i :: L, k + 1, f, hk, hf => by
    have h := flatV_at hc L k f (by simpa using hk) hf
    have e : flatV c (i :: L) = c i ++ flatV c L := rfl
    rw [e, List.getElem?_append_right (by rw [hc, Nat.succ_mul]; omega), hc]
    rw [show (k + 1) * sz + f - sz = k * sz + f by rw [Nat.succ_mul]; omega, h]
    simp
theorem flatV_one {c : α → List Value} (h1 : ∀ x, ∀ u ∈ c x, u.oneCell' = true) (L : List α) : ∀ u ∈ flatV c L, u.oneCell' = true := by
  intro u hu
  obtain ⟨i, _, h⟩ := List.mem_flatMap.1 hu
  exact h1 i u h
theorem flatV_set {c : α → List Value} {sz : Nat} (hc : ∀ x, (c x).length = sz) : ∀ (L : List α) (k f : Nat) (y : α) (x : Value) (hk : k < L.length), f < sz → c y = (c (L[k])).set f x → (flatV c L).set (k * sz + f) x = flatV c (L.set k y)
  | [], k, f, y, x, hk, _, _ => absurd hk (by simp)
  | i :: L, 0, f, y, x, _, hf, hy => by
    have e : flatV c (i :: L) = c i ++ flatV c L := rfl
    have e2 : flatV c ((i :: L).set 0 y) = c y ++ flatV c L := rfl
    simp only [List.getElem_cons_zero] at hy
    rw [e, e2, hy, Nat.zero_mul, Nat.zero_add, List.set_append_left _ _ (by rw [hc]; exact hf)]
  | i :: L, k + 1, f, y, x, hk, hf, hy => by
    have h := flatV_set hc L k f y x (by simpa using hk) hf (by simpa using hy)
    have e : flatV c (i :: L) = c i ++ flatV c L := rfl
    have e2 : flatV c ((i :: L).set (k + 1) y) = c i ++ flatV c (L.set k y) := rfl
    rw [e, e2, ← h, List.set_append_right _ _ (by rw [hc, Nat.succ_mul]; omega), hc]
    rw [show (k + 1) * sz + f - sz = k * sz + f by rw [Nat.succ_mul]; omega]

/-- Elements where they lie, so many cells each. -/
structure ElsAt (c : α → List Value) (sz : Nat) (w : World) (v : Value) (L : List α) : Prop where
  form : ∃ a cap, v = .slice a L.length cap ∧ L.length ≤ cap ∧ ∀ k (hk : k < L.length), ∃ g off, a = some ⟨g, off, none⟩ ∧ ∀ f x, (c (L[k]'hk))[f]? = some x → w.cell? ⟨g, off + k * sz + f, none⟩ = some x
theorem ElsAt.at {c : α → List Value} {sz : Nat} {w : World} {a : Option Addr} {n cap : Nat} {L : List α} (h : ElsAt c sz w (.slice a n cap) L) (k : Nat) (hk : k < L.length) : ∃ g off, a = some ⟨g, off, none⟩ ∧ ∀ f x, (c (L[k]'hk))[f]? = some x → w.cell? ⟨g, off + k * sz + f, none⟩ = some x := by
  obtain ⟨a', cap', hv, -, hc⟩ := h.form
  simp only [Value.slice.injEq] at hv
  obtain ⟨rfl, rfl, rfl⟩ := hv
  exact hc k hk
theorem ElsAt.shape {c : α → List Value} {sz : Nat} {w : World} {v : Value} {L : List α} (h : ElsAt c sz w v L) : ∃ a cap, v = .slice a L.length cap ∧ L.length ≤ cap := by
  obtain ⟨a, cap, hv, hl, -⟩ := h.form
  exact ⟨a, cap, hv, hl⟩
theorem ElsAt.keepsB {c : α → List Value} {sz : Nat} {w w' : World} {v : Value} {L : List α} {S : Nat → Prop} (h : ElsAt c sz w v L) (hc : ∀ x, (c x) ≠ []) (k : Keeps S w w') (hs : ∀ a n cp, v = .slice (some a) n cp → ¬ S a.block) : ElsAt c sz w' v L := by
  obtain ⟨a, cap, rfl, hl, hcell⟩ := h.form
  refine ⟨a, cap, rfl, hl, fun j hj => ?_⟩
  obtain ⟨g, off, rfl, q⟩ := hcell j hj
  have hg : g < w.heap.size := by
    cases hx : c (L[j]) with
    | nil => exact absurd hx (hc _)
    | cons u us => exact World.block_lt_of_cell? _ _ (q 0 u (by rw [hx]; rfl))
  have hb := k.block g hg (hs _ _ _ rfl)
  exact ⟨g, off, rfl, fun f x hx => by rw [← q f x hx]; simp [World.cell?, hb]⟩
theorem ElsAt.keeps {c : α → List Value} {sz : Nat} {w w' : World} {v : Value} {L : List α} (h : ElsAt c sz w v L) (hc : ∀ x, (c x) ≠ []) (k : Keeps (fun _ => False) w w') : ElsAt c sz w' v L := h.keepsB hc k (fun _ _ _ _ f => f)
theorem ElsAt.cells {c : α → List Value} {sz : Nat} (hc : ∀ x, (c x).length = sz) (hz : 0 < sz) {w : World} {v : Value} {L : List α} (h : ElsAt c sz w v L) (hne : L ≠ []) : ∃ g off cap, v = .slice (some ⟨g, off, none⟩) L.length cap ∧ ∀ (j : Nat) (u : Value), (flatV c L)[j]? = some u → w.cell? ((⟨g, off, none⟩ : Addr).add j) = some u := by
  obtain ⟨a, cap, rfl, hl, hcell⟩ := h.form
  have hpos := List.length_pos_iff.2 hne
  obtain ⟨g, off, ha, _⟩ := hcell 0 hpos
  subst ha
  refine ⟨g, off, cap, rfl, fun j u hj => ?_⟩
  have hjl : j < L.length * sz := by have := (List.getElem?_eq_some_iff.1 hj).1; rwa [flatV_len hc] at this
  have hk : j / sz < L.length := (Nat.div_lt_iff_lt_mul hz).2 hjl
  obtain ⟨g', off', ha, q⟩ := hcell (j / sz) hk
  cases ha
  have e : j = j / sz * sz + j % sz := by rw [Nat.mul_comm]; exact (Nat.div_add_mod j sz).symm
  rw [e, flatV_at hc L (j / sz) (j % sz) hk (Nat.mod_lt _ hz)] at hj
  rw [addr_add, e, ← Nat.add_assoc]
  exact q _ _ hj
theorem ElsAt.take {c : α → List Value} {sz : Nat} {w : World} {a : Option Addr} {n cap : Nat} {L : List α} (h : ElsAt c sz w (.slice a n cap) L) (j : Nat) (hj : j ≤ L.length) : ElsAt c sz w (.slice a j cap) (L.take j) := by
  obtain ⟨a', cap', hv, hl, hc⟩ := h.form
  simp only [Value.slice.injEq] at hv
  obtain ⟨rfl, rfl, rfl⟩ := hv
  have hlen : (L.take j).length = j := by simp; omega
  refine ⟨a, cap, by rw [hlen], by rw [hlen]; omega, fun k hk => ?_⟩
  obtain ⟨g, off, ha, q⟩ := hc k (by simp at hk; omega)
  refine ⟨g, off, ha, fun f x hx => q f x ?_⟩
  rw [List.getElem_take] at hx
  exact hx

/-- A row of elements of the call's own. -/
structure OwnR (c : α → List Value) (sz : Nat) (t : TypeId) (w : World) (base : Nat) (v : Value) (L : List α) : Prop where
  own : w.ownsRow base t sz v L.length (flatV c L)
  base : base ≤ w.heap.size
variable {c : α → List Value} {sz : Nat} {t : TypeId}
theorem OwnR.nil (c : α → List Value) (sz : Nat) (t : TypeId) (w : World) : OwnR c sz t w w.heap.size (.slice none 0 0) [] := ⟨⟨by simp [flatV], .inl ⟨rfl, rfl⟩⟩, Nat.le_refl _⟩
theorem OwnR.nilB (c : α → List Value) (sz : Nat) (t : TypeId) (w : World) (base : Nat) (hb : base ≤ w.heap.size) : OwnR c sz t w base (.slice none 0 0) [] := ⟨⟨by simp [flatV], .inl ⟨rfl, rfl⟩⟩, hb⟩
theorem OwnR.keeps {w w' : World} {base : Nat} {v : Value} {L : List α} {S : Nat → Prop} (h : OwnR c sz t w base v L) (k : Keeps S w w') (hs : ∀ g, v.ownBlock = some g → ¬ S g) : OwnR c sz t w' base v L :=
  ⟨own_keeps h.own k hs, Nat.le_trans h.base k.size⟩
theorem OwnR.form {w : World} {base : Nat} {v : Value} {L : List α} (h : OwnR c sz t w base v L) : ∃ b cp, v = .slice b L.length cp := by
  rcases h.own.2 with ⟨rfl, h2⟩ | ⟨g, cap, cur, rfl, _⟩
  · exact ⟨none, 0, by rw [h2]⟩
  · exact ⟨_, cap, rfl⟩
theorem OwnR.els (hc : ∀ x, (c x).length = sz) {w : World} {base : Nat} {v : Value} {L : List α} (h : OwnR c sz t w base v L) : ElsAt c sz w v L := by
  rcases h.own.2 with ⟨rfl, h2⟩ | ⟨g, cap, cur, rfl, h1, h2, h3, h4, h5, h6⟩
  · exact ⟨none, 0, by rw [h2], by omega, fun k hk => by omega⟩
  · refine ⟨_, cap, rfl, h3, fun k hk => ⟨g, 0, rfl, fun f x hx => ?_⟩⟩
    have hf : f < sz := by have := (List.getElem?_eq_some_iff.1 hx).1; rwa [hc] at this
    have hlt : k * sz + f < L.length * sz := by
      have := Nat.mul_le_mul_right sz (show k + 1 ≤ L.length from hk)
      rw [Nat.succ_mul] at this; omega
    rw [Nat.zero_add, cell_of_block h2, ← hx, ← flatV_at hc L k f hk hf, ← h6, List.getElem?_take_of_lt hlt]
    simp
theorem OwnR.at {w : World} {base : Nat} {v : Value} {L : List α} (h : OwnR c sz t w base v L) (hne : 0 < L.length) : ∃ g cap cur, v = .slice (some ⟨g, 0, none⟩) L.length cap ∧ base ≤ g ∧ w.heap[g]? = some (.cells cur t (0, 0)) ∧ L.length * sz ≤ cur.size := by
  rcases h.own.2 with ⟨rfl, h2⟩ | ⟨g, cap, cur, rfl, h1, h2, h3, h4, h5, h6⟩
  · omega
  · exact ⟨g, cap, cur, rfl, h1, h2, by rw [h5]; exact Nat.mul_le_mul_right _ h3⟩
/-- A cell of an element is stored. -/
theorem OwnR.set (hc : ∀ x, (c x).length = sz) {w : World} {base g n cap : Nat} {L : List α} (h : OwnR c sz t w base (.slice (some ⟨g, 0, none⟩) n cap) L) (k f : Nat) (y : α) (x : Value) (hk : k < L.length) (hf : f < sz) (hy : c y = (c (L[k])).set f x) :
    OwnR c sz t (w.setCell ⟨g, k * sz + f, none⟩ x) base (.slice (some ⟨g, 0, none⟩) n cap) (L.set k y) := by
  rcases h.own.2 with ⟨hv, h2⟩ | ⟨g', cap', cur, hv, h1, h2, h3, h4, h5, h6⟩
  · cases hv
  · cases hv
    refine ⟨⟨?_, .inr ⟨g, cap, cur.setIfInBounds (k * sz + f) x, by rw [List.length_set], h1, block_set h2 _ _, by rw [List.length_set]; exact h3, h4, by simpa using h5, ?_⟩⟩, by simpa using h.base⟩
    · rw [flatV_len hc]
    · rw [List.length_set, ← flatV_set hc L k f y x hk hf hy, ← h6]
      simp only [Array.toList_setIfInBounds]
      apply List.ext_getElem?
      intro j
      rw [List.getElem?_take, List.getElem?_set, List.getElem?_set, List.getElem?_take, List.length_take]
      have hlt : k * sz + f < L.length * sz := by
        have := Nat.mul_le_mul_right sz (show k + 1 ≤ L.length from hk)
        rw [Nat.succ_mul] at this; omega
      have hle : L.length * sz ≤ cur.size := by rw [h5]; exact Nat.mul_le_mul_right _ h3
      by_cases hj : j < L.length * sz <;> by_cases he : k * sz + f = j
      · subst he
        have h9 : k * sz + f < cur.size := Nat.lt_of_lt_of_le hlt hle
        simp [hj, h9]
        exact Nat.lt_min.2 ⟨hj, h9⟩
      · simp [hj, he]
      · omega
      · simp [hj, he]
/-- More behind a row of the call's own. -/
theorem OwnR.app {P : Program} {ts ty : TypeId} {z : Value} {bytes : Nat} (hc : ∀ x, (c x).length = sz) (h1 : ∀ x, ∀ u ∈ c x, u.oneCell' = true) (hz : 0 < sz) (ht : P.underlying ts = some (.slice t)) (hinfo : (P.info? t).map (fun i => (i.zero, i.size, i.bytes)) = some (some z, sz, bytes)) (hzs : z.cells.size = sz) (hb1 : 0 < bytes)
    {w : World} {base : Nat} {v : Value} {L : List α} (h : OwnR c sz t w base v L) (vs : Value) (M : List α) (hM : ElsAt c sz w vs M) (hb : (L.length + M.length) * bytes ≤ 140737488355328) :
    ∃ v' w', (Builtin.append_ #[ts, ts] ty #[v, vs]).run P w = .ok v' w' ∧ OwnR c sz t w' base v' (L ++ M) ∧ Grew w w' v v' := by
  obtain ⟨i0, hi, hz0, hz1, hz2⟩ := info_parts hinfo
  by_cases hne : M = []
  · subst hne
    obtain ⟨a, cp, rfl, _, _⟩ := hM.form
    simp only [List.length_nil, List.append_nil]
    cases a with
    | none =>
      have hv : ∃ b n c', v = .slice b n c' ∧ n ≤ c' := by
        rcases h.own.2 with ⟨rfl, _⟩ | ⟨g, cap, cur, rfl, _, _, h3, _⟩
        · exact ⟨none, 0, 0, rfl, Nat.le_refl _⟩
        · exact ⟨_, _, cap, rfl, h3⟩
      obtain ⟨b, n, c', rfl, hle⟩ := hv
      exact ⟨_, w, run_append_nothing w ts ts ty t i0 ht hi b n c' hle _ (Src.ofNil _ (e' := t) ht cp), h, Grew.refl _ _⟩
    | some a =>
      obtain ⟨v', w', q1, q2, q3, q4⟩ := own_push (P := P) w base ts ty t _ sz bytes ht hinfo hzs hz v L.length _ h.own a 0 cp [] (by simp) (fun j u hj => by simp at hj) (by simp) (by simpa using hb) hb1 h.base
      refine ⟨v', w', q1, ⟨by simpa using q2, Nat.le_trans h.base q3.size⟩, ⟨(Keeps.refl _ _).grown q3 fun k hk => .inr hk, q4⟩⟩
  · obtain ⟨g, off, cap, rfl, hcs⟩ := hM.cells hc hz hne
    obtain ⟨v', w', q1, q2, q3, q4⟩ := own_push (P := P) w base ts ty t _ sz bytes ht hinfo hzs hz v L.length _ h.own ⟨g, off, none⟩ M.length cap (flatV c M) (flatV_len hc M) hcs (flatV_one h1 M) hb hb1 h.base
    refine ⟨v', w', q1, ⟨by simpa [flatV] using q2, Nat.le_trans h.base q3.size⟩, ⟨(Keeps.refl _ _).grown q3 fun k hk => .inr hk, q4⟩⟩
theorem ElsAt.one {w : World} {g : Nat} (x : α) {cs : Array Value} (hcs : cs = (c x).toArray) (hb : w.heap[g]? = some (.cells cs t (0, 0))) : ElsAt c sz w (.slice (some ⟨g, 0, none⟩) 1 1) [x] := by
  refine ⟨_, 1, rfl, Nat.le_refl _, fun k hk => ⟨g, 0, rfl, fun f u hu => ?_⟩⟩
  obtain rfl : k = 0 := by simp at hk; omega
  rw [cell_of_block hb, hcs]
  simpa using hu
theorem OwnR.push {P : Program} {ts ty : TypeId} {z : Value} {bytes : Nat} (hc : ∀ x, (c x).length = sz) (h1 : ∀ x, ∀ u ∈ c x, u.oneCell' = true) (hz : 0 < sz) (ht : P.underlying ts = some (.slice t)) (hinfo : (P.info? t).map (fun i => (i.zero, i.size, i.bytes)) = some (some z, sz, bytes)) (hzs : z.cells.size = sz) (hb1 : 0 < bytes)
    {w : World} {base : Nat} {v : Value} {L : List α} (h : OwnR c sz t w base v L) (x : α) {cs : Array Value} (hcs : cs = (c x).toArray) (hb : (L.length + 1) * bytes ≤ 140737488355328) :
    ∃ v' w', (Builtin.append_ #[ts, ts] ty #[v, .slice (some ⟨w.heap.size, 0, none⟩) 1 1]).run P (w.alloc (.cells cs t)) = .ok v' w' ∧ OwnR c sz t w' base v' (L ++ [x]) ∧ Grew w w' v v' := by
  have k0 := (Keeps.refl (fun _ => False) w).alloc (.cells cs t)
  have b0 := (MapKept.heap_alloc w (.cells cs t)).1
  obtain ⟨v', w', q1, q2, q3⟩ := (h.keeps k0 (fun _ _ f => f)).app hc h1 hz ht hinfo hzs hb1 (ty := ty) _ [x] (ElsAt.one x hcs b0) (by simpa using hb)
  exact ⟨v', w', q1, q2, Grew.ahead k0 q3⟩
theorem OwnR.kept {w wr w' : World} {u u' : Value} {X : List α} (h : Grew wr w' u u') (k : Keeps (fun _ => False) w wr) (hb : OwnR c sz t wr w.heap.size u X) : Keeps (fun _ => False) w w' :=
  ⟨h.keeps.os.trans k.os, h.keeps.tape.trans k.tape, h.keeps.output.trans k.output, Nat.le_trans k.size h.keeps.size, fun g hg hs => (h.keeps.block g (Nat.lt_of_lt_of_le hg k.size) fun e => by
    have := (own_block hb.own e).2; omega).trans (k.block g hg hs)⟩
end

/-- Events. -/
@[reducible] def Ev.cl (e : Ev) : List Value := [.int .i64 e.th, .int .i64 e.kd, .int .u64 e.ad, .int .u64 e.wd, .bool e.own, .int .i64 e.er]
theorem ev_len (e : Ev) : e.cl.length = 6 := rfl
theorem ev_ne (e : Ev) : e.cl ≠ [] := by simp
theorem ev_one (e : Ev) : ∀ u ∈ e.cl, u.oneCell' = true := by
  intro u hu
  simp at hu
  rcases hu with rfl | rfl | rfl | rfl | rfl | rfl <;> rfl
theorem info_ev : (Tryd.prog.info? 29).map (fun i => (i.zero, i.size, i.bytes)) = some (some (.agg #[.int .i64 0, .int .i64 0, .int .u64 0, .int .u64 0, .bool false, .int .i64 0]), 6, 48) := by kernel_rfl
/-- A history as it lies. -/
structure EvsAt (w : World) (v : Value) (L : List Ev) : Prop where
  els : ElsAt Ev.cl 6 w v L
  wf : ∀ e ∈ L, e.wf
  big : L.length * 48 ≤ 140737488351232
theorem EvsAt.keeps {w w' : World} {v : Value} {L : List Ev} (h : EvsAt w v L) (k : Keeps (fun _ => False) w w') : EvsAt w' v L := ⟨h.els.keeps ev_ne k, h.wf, h.big⟩
theorem EvsAt.keepsB {w w' : World} {v : Value} {L : List Ev} {S : Nat → Prop} (h : EvsAt w v L) (k : Keeps S w w') (hs : ∀ a n cp, v = .slice (some a) n cp → ¬ S a.block) : EvsAt w' v L := ⟨h.els.keepsB ev_ne k hs, h.wf, h.big⟩
/-- An event of a history, cell by cell. -/
theorem EvsAt.at {w : World} {a : Option Addr} {n cap : Nat} {L : List Ev} (h : EvsAt w (.slice a n cap) L) (k : Nat) (hk : k < L.length) : ∃ g off, a = some ⟨g, off, none⟩ ∧ w.cell? ⟨g, off + k * 6, none⟩ = some (.int .i64 (L[k]).th) ∧ w.cell? ⟨g, off + k * 6 + 1, none⟩ = some (.int .i64 (L[k]).kd) ∧ w.cell? ⟨g, off + k * 6 + 2, none⟩ = some (.int .u64 (L[k]).ad) ∧ w.cell? ⟨g, off + k * 6 + 3, none⟩ = some (.int .u64 (L[k]).wd) ∧ w.cell? ⟨g, off + k * 6 + 4, none⟩ = some (.bool (L[k]).own) ∧ w.cell? ⟨g, off + k * 6 + 5, none⟩ = some (.int .i64 (L[k]).er) := by
  obtain ⟨g, off, ha, q⟩ := h.els.at k hk
  exact ⟨g, off, ha, q 0 _ rfl, q 1 _ rfl, q 2 _ rfl, q 3 _ rfl, q 4 _ rfl, q 5 _ rfl⟩
/-- Attempts. -/
@[reducible] def Ty.cl (t : Ty) : List Value := [.int .i64 t.th, .int .i64 t.fi, .int .i64 t.la, .int .u64 t.sn, .int .i64 t.how, .int .i64 t.rd, .int .i64 t.wr]
theorem ty_len (e : Ty) : e.cl.length = 7 := rfl
theorem ty_ne (e : Ty) : e.cl ≠ [] := by simp
theorem ty_one (e : Ty) : ∀ u ∈ e.cl, u.oneCell' = true := by
  intro u hu
  simp at hu
  rcases hu with rfl | rfl | rfl | rfl | rfl | rfl | rfl <;> rfl
theorem info_ty : (Tryd.prog.info? 44).map (fun i => (i.zero, i.size, i.bytes)) = some (some (.agg #[.int .i64 0, .int .i64 0, .int .i64 0, .int .u64 0, .int .i64 0, .int .i64 0, .int .i64 0]), 7, 56) := by kernel_rfl
end Go.Proofs.YthgkbmfnidehbaaDoor
