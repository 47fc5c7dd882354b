
/- Rows of blocks, each with rows of its own. No statement of the seat is proved here. -/
import Derived.Test.YthgkbmfnidehbaaDoorWiAB
import Derived.Test.YthgkbmfnidehbaaDoorWiC
import Derived.Test.YthgkbmfnidehbaaDoorEvX
namespace Go.Proofs.YthgkbmfnidehbaaDoor
open Go.RowKit Go.Shelf

theorem Keeps.cellB {S : Nat → Prop} {w w' : World} (k : Keeps S w w') {a : Addr} {v : Value} (hs : ¬ S a.block) (h : w.cell? a = some v) : w'.cell? a = some v := by
  rw [← h]; simp only [World.cell?, k.block a.block (World.block_lt_of_cell? _ _ h) hs]
/-- An address and a word. -/
@[reducible] def enC (p : Int × Int) : List Value := [.int .u64 p.1, .int .u64 p.2, .bool false]
theorem en_len (p : Int × Int) : (enC p).length = 3 := rfl
theorem en_ne (p : Int × Int) : enC p ≠ [] := by simp
theorem en_one (p : Int × Int) : ∀ u ∈ enC p, u.oneCell' = true := by
  intro u hu
  simp at hu
  rcases hu with rfl | rfl | rfl <;> rfl
theorem info_en : (Tryd.prog.info? 60).map (fun i => (i.zero, i.size, i.bytes)) = some (some (.agg #[.int .u64 0, .int .u64 0, .bool false]), 3, 24) := by kernel_rfl
abbrev EnR (w : World) (base : Nat) (v : Value) (L : List (Int × Int)) : Prop := OwnR enC 3 60 w base v L
/-- A slice. -/
structure Sl where
  a : Option Addr
  n : Nat
  c : Nat
@[reducible] def Sl.v (s : Sl) : Value := .slice s.a s.n s.c
def sl0 : Sl := ⟨none, 0, 0⟩
theorem sl_of {α : Type} {c : α → List Value} {sz : Nat} {t : TypeId} {w : World} {base : Nat} {v : Value} {L : List α} (h : OwnR c sz t w base v L) : ∃ s : Sl, v = s.v ∧ s.n = L.length := by
  obtain ⟨b, cp, rfl⟩ := h.form
  exact ⟨⟨b, L.length, cp⟩, rfl, rfl⟩
/-- A block with its two rows. -/
structure Bx where
  p : Pt
  r : Sl
  s : Sl
@[reducible] def Bx.cp (x : Bx) : List Value := [.int .i64 x.p.th, .int .i64 x.p.kd, .int .i64 x.p.fi, .int .i64 x.p.la, .int .u64 x.p.nu, .bool x.p.wr, .int .i64 x.p.er, x.r.v, x.s.v, .int .i64 x.p.si, .bool x.p.lk]
@[reducible] def Bx.cb (x : Bx) : List Value := [.int .i64 x.p.th, .int .i64 x.p.kd, .int .i64 x.p.fi, .int .i64 x.p.la, .int .u64 x.p.nu, .bool x.p.wr, .int .i64 x.p.er, x.r.v, x.s.v]
theorem cp_len (x : Bx) : x.cp.length = 11 := rfl
theorem cb_len (x : Bx) : x.cb.length = 9 := rfl
theorem cp_ne (x : Bx) : x.cp ≠ [] := by simp
theorem cb_ne (x : Bx) : x.cb ≠ [] := by simp
theorem cp_one (x : Bx) : ∀ u ∈ x.cp, u.oneCell' = true := by
  intro u hu
  simp at hu
  rcases hu with rfl | rfl | rfl | rfl | rfl | rfl | rfl | rfl | rfl | rfl | rfl <;> rfl
theorem cb_one (x : Bx) : ∀ u ∈ x.cb, u.oneCell' = true := by
  intro u hu
  simp at hu
  rcases hu with rfl | rfl | rfl | rfl | rfl | rfl | rfl | rfl | rfl <;> rfl
def Bx.ow (x : Bx) : List Nat := x.r.v.ownBlock.toList ++ x.s.v.ownBlock.toList
def ows (X : List Bx) : List Nat := X.flatMap Bx.ow
theorem ows_append (X Y : List Bx) : ows (X ++ Y) = ows X ++ ows Y := by simp [ows]
theorem mem_ows {X : List Bx} {q : Nat} (h : q ∈ ows X) : ∃ x ∈ X, x.r.v.ownBlock = some q ∨ x.s.v.ownBlock = some q := by
  obtain ⟨x, hx, hq⟩ := List.mem_flatMap.1 h
  refine ⟨x, hx, ?_⟩
  unfold Bx.ow at hq
  rcases List.mem_append.1 hq with hq | hq
  · exact .inl (Option.mem_toList.1 hq)
  · exact .inr (Option.mem_toList.1 hq)
theorem ows_mem {X : List Bx} {x : Bx} (hx : x ∈ X) {q : Nat} (hq : x.r.v.ownBlock = some q ∨ x.s.v.ownBlock = some q) : q ∈ ows X := by
  refine List.mem_flatMap.2 ⟨x, hx, ?_⟩
  unfold Bx.ow
  rcases hq with hq | hq
  · exact List.mem_append_left _ (by rw [hq]; simp)
  · exact List.mem_append_right _ (by rw [hq]; simp)
/-- The blocks' rows: of the call's own, all apart. -/
structure Rws (w : World) (base : Nat) (X : List Bx) : Prop where
  rd : ∀ x ∈ X, EnR w base x.r.v x.p.rs
  wt : ∀ x ∈ X, EnR w base x.s.v x.p.ws
  nd : (ows X).Nodup
theorem Rws.nil (w : World) (base : Nat) : Rws w base [] := ⟨fun _ h => by simp at h, fun _ h => by simp at h, by simp [ows]⟩
theorem Rws.young {w : World} {base : Nat} {X : List Bx} (h : Rws w base X) {q : Nat} (hq : q ∈ ows X) : q < w.heap.size ∧ base ≤ q := by
  obtain ⟨x, hx, hq | hq⟩ := mem_ows hq
  · exact own_block (h.rd x hx).own hq
  · exact own_block (h.wt x hx).own hq
theorem Rws.keeps {w w' : World} {base : Nat} {X : List Bx} {S : Nat → Prop} (h : Rws w base X) (k : Keeps S w w') (hs : ∀ q ∈ ows X, ¬ S q) : Rws w' base X :=
  ⟨fun x hx => (h.rd x hx).keeps k fun g hg => hs g (ows_mem hx (.inl hg)), fun x hx => (h.wt x hx).keeps k fun g hg => hs g (ows_mem hx (.inr hg)), h.nd⟩
theorem OwnR.low {α : Type} {c : α → List Value} {sz : Nat} {t : TypeId} {w : World} {b b' : Nat} {v : Value} {L : List α} (h : OwnR c sz t w b v L) (hb : b' ≤ b) : OwnR c sz t w b' v L :=
  ⟨⟨h.own.1, by
    rcases h.own.2 with h2 | ⟨g, cap, cur, hv, h1, h2⟩
    · exact .inl h2
    · exact .inr ⟨g, cap, cur, hv, Nat.le_trans hb h1, h2⟩⟩, Nat.le_trans hb h.base⟩
theorem Rws.low {w : World} {b b' : Nat} {X : List Bx} (h : Rws w b X) (hb : b' ≤ b) : Rws w b' X := ⟨fun x hx => (h.rd x hx).low hb, fun x hx => (h.wt x hx).low hb, h.nd⟩
theorem Rws.add {w : World} {base b : Nat} {X : List Bx} {x : Bx} (h : Rws w base X) (hx : Rws w b [x]) (hb : base ≤ b) (hs : ∀ q ∈ ows X, q < b) : Rws w base (X ++ [x]) := by
  refine ⟨fun y hy => ?_, fun y hy => ?_, ?_⟩
  · rcases List.mem_append.1 hy with hy | hy
    · exact h.rd y hy
    · exact (hx.rd y hy).low hb
  · rcases List.mem_append.1 hy with hy | hy
    · exact h.wt y hy
    · exact (hx.wt y hy).low hb
  · rw [ows_append, List.nodup_append]
    refine ⟨h.nd, hx.nd, fun a ha c hc e => ?_⟩
    have := hs a ha
    have := (hx.young hc).2
    omega
theorem ows_set {X : List Bx} {n : Nat} {y : Bx} (hn : n < X.length) (hy : y.ow = (X[n]).ow) : ows (X.set n y) = ows X := by
  unfold ows
  rw [List.flatMap_def, List.flatMap_def]
  congr 1
  apply List.ext_getElem?
  intro i
  rw [List.getElem?_map, List.getElem?_map, List.getElem?_set]
  split
  · rename_i hi
    subst hi
    simp [hn, hy]
  · rfl
theorem ows_split {X : List Bx} {n : Nat} (hn : n < X.length) : ows X = ows (X.take n) ++ ((X[n]).ow ++ ows (X.drop (n + 1))) := by
  have h : X = X.take n ++ X[n] :: X.drop (n + 1) := by rw [← List.drop_eq_getElem_cons hn, List.take_append_drop]
  conv => lhs; rw [h]
  rw [ows_append]; rfl
theorem ows_set_split {X : List Bx} {n : Nat} (y : Bx) (hn : n < X.length) : ows (X.set n y) = ows (X.take n) ++ (y.ow ++ ows (X.drop (n + 1))) := by
  rw [ows_split (n := n) (by simpa using hn), List.getElem_set_self]
  congr 2
  · rw [List.take_set_of_le (Nat.le_refl _)]
  · rw [List.drop_set_of_lt (by omega)]
theorem nodup_set {X : List Bx} {n z : Nat} {y : Bx} (hn : n < X.length) (h : (ows X).Nodup) (hz : ∀ q ∈ ows X, q < z) (hy : y.ow.Nodup) (hq : ∀ q ∈ y.ow, q ∈ (X[n]).ow ∨ z ≤ q) : (ows (X.set n y)).Nodup := by
  rw [ows_split hn] at h
  rw [ows_split hn] at hz
  rw [ows_set_split y hn]
  rw [List.nodup_append, List.nodup_append] at h ⊢
  obtain ⟨h1, ⟨h2, h3, h4⟩, h5⟩ := h
  refine ⟨h1, ⟨hy, h3, fun a ha b hb e => ?_⟩, fun a ha b hb e => ?_⟩
  · rcases hq a ha with q | q
    · exact h4 a q b hb e
    · have := hz b (List.mem_append_right _ (List.mem_append_right _ hb)); omega
  · rcases List.mem_append.1 hb with hb | hb
    · rcases hq b hb with q | q
      · exact h5 a ha b (List.mem_append_left _ q) e
      · have := hz a (List.mem_append_left _ ha); omega
    · exact h5 a ha b (List.mem_append_right _ hb) e
theorem mem_set_at {X : List Bx} {n : Nat} {y x : Bx} (h : x ∈ X.set n y) : x = y ∨ ∃ i, i ≠ n ∧ X[i]? = some x := by
  obtain ⟨i, hi⟩ := List.getElem?_of_mem h
  rw [List.getElem?_set] at hi
  split at hi
  · split at hi
    · exact .inl (Option.some.inj hi).symm
    · cases hi
  · exact .inr ⟨i, by omega, hi⟩
theorem ows_other {X : List Bx} {n i : Nat} {x : Bx} (hn : n < X.length) (h : (ows X).Nodup) (hi : i ≠ n) (hx : X[i]? = some x) {q : Nat} (hq : x.r.v.ownBlock = some q ∨ x.s.v.ownBlock = some q) : q ∉ (X[n]).ow := by
  intro hc
  rw [ows_split hn] at h
  rw [List.nodup_append, List.nodup_append] at h
  obtain ⟨h1, ⟨h2, h3, h4⟩, h5⟩ := h
  obtain ⟨hil, hxe⟩ := List.getElem?_eq_some_iff.1 hx
  rcases Nat.lt_or_gt_of_ne hi with hlt | hgt
  · have : x ∈ X.take n := List.mem_iff_getElem.2 ⟨i, by simp; omega, by simp [hxe]⟩
    exact h5 q (ows_mem this hq) q (List.mem_append_left _ hc) rfl
  · have : x ∈ X.drop (n + 1) := List.mem_iff_getElem.2 ⟨i - (n + 1), by simp; omega, by
      rw [List.getElem_drop]
      have e : n + 1 + (i - (n + 1)) = i := by omega
      simp [e, hxe]⟩
    exact h4 q hc q (ows_mem this hq) rfl

/-- A row of blocks, its blocks' rows apart. -/
structure RwL (c : Bx → List Value) (sz : Nat) (t : TypeId) (w : World) (base : Nat) (v : Value) (X : List Bx) : Prop where
  own : OwnR c sz t w base v X
  rws : Rws w base X
  ap : ∀ g, v.ownBlock = some g → g ∉ ows X
variable {c : Bx → List Value} {sz : Nat} {t : TypeId}
theorem RwL.keeps {w w' : World} {base : Nat} {v : Value} {X : List Bx} {S : Nat → Prop} (h : RwL c sz t w base v X) (k : Keeps S w w') (hs : ∀ q, base ≤ q → q < w.heap.size → ¬ S q) : RwL c sz t w' base v X :=
  ⟨h.own.keeps k fun g hg => hs g (own_block h.own.own hg).2 (own_block h.own.own hg).1, h.rws.keeps k fun q hq => hs q (h.rws.young hq).2 (h.rws.young hq).1, h.ap⟩
theorem RwL.low {w : World} {b b' : Nat} {v : Value} {X : List Bx} (h : RwL c sz t w b v X) (hb : b' ≤ b) : RwL c sz t w b' v X := ⟨h.own.low hb, h.rws.low hb, h.ap⟩
/-- The row has grown by one block. -/
theorem RwL.grew {w w' : World} {base : Nat} {v v' : Value} {X : List Bx} {x : Bx} (ho : OwnR c sz t w' base v' (X ++ [x])) (g : Grew w w' v v') (hx : Rws w base (X ++ [x])) (hap : ∀ q, v.ownBlock = some q → q ∉ ows (X ++ [x])) : RwL c sz t w' base v' (X ++ [x]) := by
  refine ⟨ho, hx.keeps g.keeps fun q hq e => hap q e hq, fun q hq => ?_⟩
  rcases g.own with e | e
  · exact hap q (e ▸ hq)
  · intro hc
    have := e q hq
    have := (hx.young hc).1
    omega
/-- A cell of a block that is no row is stored. -/
theorem RwL.set (hc : ∀ x, (c x).length = sz) {w : World} {base g N cap : Nat} {X : List Bx} (h : RwL c sz t w base (.slice (some ⟨g, 0, none⟩) N cap) X) (n f : Nat) (y : Bx) (u : Value) (hn : n < X.length) (hf : f < sz) (hy : c y = (c (X[n])).set f u) (hr : y.r = (X[n]).r) (hs : y.s = (X[n]).s) (h1 : y.p.rs = (X[n]).p.rs) (h2 : y.p.ws = (X[n]).p.ws) :
    RwL c sz t (w.setCell ⟨g, n * sz + f, none⟩ u) base (.slice (some ⟨g, 0, none⟩) N cap) (X.set n y) := by
  have k : Keeps (fun q => q = g) w (w.setCell ⟨g, n * sz + f, none⟩ u) := Keeps.setCell (S := fun q => q = g) (p := ⟨g, n * sz + f, none⟩) (Keeps.refl _ w) (.inr rfl) u
  have hg : g ∉ ows X := h.ap g rfl
  have ho : ows (X.set n y) = ows X := ows_set hn (by unfold Bx.ow; rw [hr, hs])
  have R := h.rws.keeps k (fun q hq e => hg (e ▸ hq))
  have hm := List.getElem_mem hn
  refine ⟨h.own.set hc n f y u hn hf hy, ⟨fun x hx => ?_, fun x hx => ?_, by rw [ho]; exact R.nd⟩, fun q hq => by rw [ho]; exact h.ap q hq⟩
  · rcases List.mem_or_eq_of_mem_set hx with q | q
    · exact R.rd x q
    · rw [q, hr, h1]; exact R.rd _ hm
  · rcases List.mem_or_eq_of_mem_set hx with q | q
    · exact R.wt x q
    · rw [q, hs, h2]; exact R.wt _ hm
/-- A block's row of reads has grown, and is stored. -/
theorem RwL.reads (hc : ∀ x, (c x).length = sz) {w w1 : World} {base g N cap : Nat} {X : List Bx} (h : RwL c sz t w base (.slice (some ⟨g, 0, none⟩) N cap) X) (n f : Nat) (y : Bx) (hn : n < X.length) (hf : f < sz) (hy : c y = (c (X[n])).set f y.r.v) (hs : y.s = (X[n]).s) (h2 : y.p.ws = (X[n]).p.ws)
    (hI : EnR w1 base y.r.v y.p.rs) (gr : Grew w w1 (X[n]).r.v y.r.v) :
    RwL c sz t (w1.setCell ⟨g, n * sz + f, none⟩ y.r.v) base (.slice (some ⟨g, 0, none⟩) N cap) (X.set n y) ∧ Keeps (fun q => base ≤ q) w (w1.setCell ⟨g, n * sz + f, none⟩ y.r.v) := by
  have hm := List.getElem_mem hn
  have hgb := own_block h.own.own (g := g) rfl
  have hg : g ∉ ows X := h.ap g rfl
  have k : Keeps (fun q => q = g) w1 (w1.setCell ⟨g, n * sz + f, none⟩ y.r.v) := Keeps.setCell (S := fun q => q = g) (p := ⟨g, n * sz + f, none⟩) (Keeps.refl _ w1) (.inr rfl) _
  have o1 : OwnR c sz t w1 base (.slice (some ⟨g, 0, none⟩) N cap) X := h.own.keeps gr.keeps fun q hq e => by
    cases hq; exact hg (ows_mem hm (.inl e))
  have hyo : ∀ q ∈ y.ow, q ∈ (X[n]).ow ∨ w.heap.size ≤ q := fun q hq => by
    unfold Bx.ow at hq ⊢
    rcases List.mem_append.1 hq with hq | hq
    · have hq := Option.mem_toList.1 hq
      rcases gr.own with e | e
      · left; exact List.mem_append_left _ (by rw [← e, hq]; simp)
      · exact .inr (e q hq)
    · left; rw [hs] at hq; exact List.mem_append_right _ hq
  have hynd : y.ow.Nodup := by
    have hxn : (X[n]).ow.Nodup := by
      have := h.rws.nd
      rw [ows_split hn, List.nodup_append, List.nodup_append] at this
      exact this.2.1.1
    unfold Bx.ow at hxn ⊢
    rw [hs]
    rcases gr.own with e | e
    · rw [e]; exact hxn
    · rw [List.nodup_append] at hxn ⊢
      refine ⟨by cases y.r.v.ownBlock <;> simp, hxn.2.1, fun a ha b hb he => ?_⟩
      have h3 := e a (Option.mem_toList.1 ha)
      have h4 := (own_block (h.rws.wt _ hm).own (Option.mem_toList.1 hb)).1
      omega
  have nd2 := nodup_set hn h.rws.nd (fun q hq => (h.rws.young hq).1) hynd hyo
  have hgy : g ∉ y.ow := fun hq => by
    rcases hyo g hq with q | q
    · exact hg (by rw [ows_split hn]; exact List.mem_append_right _ (List.mem_append_left _ q))
    · omega
  have hgs : g ∉ ows (X.set n y) := fun hq => by
    rw [ows_set_split y hn] at hq
    rw [ows_split hn] at hg
    rcases List.mem_append.1 hq with hq | hq
    · exact hg (List.mem_append_left _ hq)
    · rcases List.mem_append.1 hq with hq | hq
      · exact hgy hq
      · exact hg (List.mem_append_right _ (List.mem_append_right _ hq))
  have oth : ∀ (x : Bx) (i : Nat), i ≠ n → X[i]? = some x → ∀ q, x.r.v.ownBlock = some q ∨ x.s.v.ownBlock = some q → ¬ (X[n]).r.v.ownBlock = some q := fun x i hi hx q hq e => ows_other hn h.rws.nd hi hx hq (by unfold Bx.ow; exact List.mem_append_left _ (by rw [e]; simp))
  have gne : ∀ q, q ∈ ows (X.set n y) → ¬ q = g := fun q hq e => hgs (e ▸ hq)
  refine ⟨⟨o1.set hc n f y _ hn hf hy, ⟨fun x hx => ?_, fun x hx => ?_, nd2⟩, fun q hq => by cases hq; exact hgs⟩, ?_⟩
  · rcases mem_set_at hx with q | ⟨i, hi, hxi⟩
    · subst q
      exact hI.keeps k fun q hq => gne q (ows_mem hx (.inl hq))
    · exact ((h.rws.rd x (List.mem_of_getElem? hxi)).keeps gr.keeps fun q hq => oth x i hi hxi q (.inl hq)).keeps k fun q hq => gne q (ows_mem hx (.inl hq))
  · rcases mem_set_at hx with q | ⟨i, hi, hxi⟩
    · subst q
      have := (h.rws.wt _ hm).keeps gr.keeps fun q hq e => by
        have hxn := h.rws.nd
        rw [ows_split hn, List.nodup_append, List.nodup_append] at hxn
        have hxn := hxn.2.1.1
        unfold Bx.ow at hxn
        rw [List.nodup_append] at hxn
        exact hxn.2.2 q (by rw [e]; simp) q (by rw [hq]; simp) rfl
      rw [hs, h2]
      exact this.keeps k fun q hq => gne q (ows_mem hx (.inr (by rw [hs]; exact hq)))
    · exact ((h.rws.wt x (List.mem_of_getElem? hxi)).keeps gr.keeps fun q hq => oth x i hi hxi q (.inr hq)).keeps k fun q hq => gne q (ows_mem hx (.inr hq))
  · exact (gr.keeps.mono fun q hq e => (own_block (h.rws.rd _ hm).own e).2).setCell (.inr hgb.2) _
/-- A block's row of writes has grown, and is stored. -/
theorem RwL.writes (hc : ∀ x, (c x).length = sz) {w w1 : World} {base g N cap : Nat} {X : List Bx} (h : RwL c sz t w base (.slice (some ⟨g, 0, none⟩) N cap) X) (n f : Nat) (y : Bx) (hn : n < X.length) (hf : f < sz) (hy : c y = (c (X[n])).set f y.s.v) (hs : y.r = (X[n]).r) (h2 : y.p.rs = (X[n]).p.rs)
    (hI : EnR w1 base y.s.v y.p.ws) (gr : Grew w w1 (X[n]).s.v y.s.v) :
    RwL c sz t (w1.setCell ⟨g, n * sz + f, none⟩ y.s.v) base (.slice (some ⟨g, 0, none⟩) N cap) (X.set n y) ∧ Keeps (fun q => base ≤ q) w (w1.setCell ⟨g, n * sz + f, none⟩ y.s.v) := by
  have hm := List.getElem_mem hn
  have hgb := own_block h.own.own (g := g) rfl
  have hg : g ∉ ows X := h.ap g rfl
  have k : Keeps (fun q => q = g) w1 (w1.setCell ⟨g, n * sz + f, none⟩ y.s.v) := Keeps.setCell (S := fun q => q = g) (p := ⟨g, n * sz + f, none⟩) (Keeps.refl _ w1) (.inr rfl) _
  have o1 : OwnR c sz t w1 base (.slice (some ⟨g, 0, none⟩) N cap) X := h.own.keeps gr.keeps fun q hq e => by
    cases hq; exact hg (ows_mem hm (.inr e))
  have hyo : ∀ q ∈ y.ow, q ∈ (X[n]).ow ∨ w.heap.size ≤ q := fun q hq => by
    unfold Bx.ow at hq ⊢
    rcases List.mem_append.1 hq with hq | hq
    · left; rw [hs] at hq; exact List.mem_append_left _ hq
    · have hq := Option.mem_toList.1 hq
      rcases gr.own with e | e
      · left; exact List.mem_append_right _ (by rw [← e, hq]; simp)
      · exact .inr (e q hq)
  have hynd : y.ow.Nodup := by
    have hxn : (X[n]).ow.Nodup := by
      have := h.rws.nd
      rw [ows_split hn, List.nodup_append, List.nodup_append] at this
      exact this.2.1.1
    unfold Bx.ow at hxn ⊢
    rw [hs]
    rcases gr.own with e | e
    · rw [e]; exact hxn
    · rw [List.nodup_append] at hxn ⊢
      refine ⟨hxn.1, by cases y.s.v.ownBlock <;> simp, fun a ha b hb he => ?_⟩
      have h3 := e b (Option.mem_toList.1 hb)
      have h4 := (own_block (h.rws.rd _ hm).own (Option.mem_toList.1 ha)).1
      omega
  have nd2 := nodup_set hn h.rws.nd (fun q hq => (h.rws.young hq).1) hynd hyo
  have hgy : g ∉ y.ow := fun hq => by
    rcases hyo g hq with q | q
    · exact hg (by rw [ows_split hn]; exact List.mem_append_right _ (List.mem_append_left _ q))
    · omega
  have hgs : g ∉ ows (X.set n y) := fun hq => by
    rw [ows_set_split y hn] at hq
    rw [ows_split hn] at hg
    rcases List.mem_append.1 hq with hq | hq
    · exact hg (List.mem_append_left _ hq)
    · rcases List.mem_append.1 hq with hq | hq
      · exact hgy hq
      · exact hg (List.mem_append_right _ (List.mem_append_right _ hq))
  have oth : ∀ (x : Bx) (i : Nat), i ≠ n → X[i]? = some x → ∀ q, x.r.v.ownBlock = some q ∨ x.s.v.ownBlock = some q → ¬ (X[n]).s.v.ownBlock = some q := fun x i hi hx q hq e => ows_other hn h.rws.nd hi hx hq (by unfold Bx.ow; exact List.mem_append_right _ (by rw [e]; simp))
  have gne : ∀ q, q ∈ ows (X.set n y) → ¬ q = g := fun q hq e => hgs (e ▸ hq)
  refine ⟨⟨o1.set hc n f y _ hn hf hy, ⟨fun x hx => ?_, fun x hx => ?_, nd2⟩, fun q hq => by cases hq; exact hgs⟩, ?_⟩
  · rcases mem_set_at hx with q | ⟨i, hi, hxi⟩
    · subst q
      have := (h.rws.rd _ hm).keeps gr.keeps fun q hq e => by
        have hxn := h.rws.nd
        rw [ows_split hn, List.nodup_append, List.nodup_append] at hxn
        have hxn := hxn.2.1.1
        unfold Bx.ow at hxn
        rw [List.nodup_append] at hxn
        exact hxn.2.2 q (by rw [hq]; simp) q (by rw [e]; simp) rfl
      rw [hs, h2]
      exact this.keeps k fun q hq => gne q (ows_mem hx (.inl (by rw [hs]; exact hq)))
    · exact ((h.rws.rd x (List.mem_of_getElem? hxi)).keeps gr.keeps fun q hq => oth x i hi hxi q (.inl hq)).keeps k fun q hq => gne q (ows_mem hx (.inl hq))
  · rcases mem_set_at hx with q | ⟨i, hi, hxi⟩
    · subst q
      exact hI.keeps k fun q hq => gne q (ows_mem hx (.inr hq))
    · exact ((h.rws.wt x (List.mem_of_getElem? hxi)).keeps gr.keeps fun q hq => oth x i hi hxi q (.inr hq)).keeps k fun q hq => gne q (ows_mem hx (.inr hq))
  · exact (gr.keeps.mono fun q hq e => (own_block (h.rws.wt _ hm).own e).2).setCell (.inr hgb.2) _
end Go.Proofs.YthgkbmfnidehbaaDoor
