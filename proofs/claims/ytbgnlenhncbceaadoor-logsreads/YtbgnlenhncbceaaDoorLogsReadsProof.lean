/-
  For every input LogsReads returns true, and leaves what was handed in as it was: the tied card; no condition. (Several texts in one: RefC, TwoB, DuoA, RdIn, RdInA, RdOut, LogsReadsProof.)
-/
import Derived.Test.YtbgnlenhncbceaaDoorReadsE
import Derived.Test.YtbgnlenhncbceaaDoorTwoA
import Derived.Test.YtbgnlenhncbceaaDoorReadsM
import Derived.Test.YtbgnlenhncbceaaDoorOpenM

/-
  The document's Copy. No statement of the seat is proved here.
-/
namespace Go.Proofs.YtbgnlenhncbceaaDoor
open Go.RowKit Go.Shelf
attribute [local go_sem] Oper.semAt_some

set_option maxRecDepth 100000 in
set_option maxHeartbeats 1000000 in
theorem ref_copy (b most : Nat) (L : List (Int × Int)) (v : Value) (w : World) (h : RefAt w b most L v) (hL : L.length < 4398046511104) :
    Calls Tryd.prog 12 #[.pointer (some ⟨b, 0, none⟩)] w fun e w' => ∃ b' v', e = .returned (.pointer (some ⟨b', 0, none⟩)) ∧ RefAt w' b' most L v' ∧ w.heap.size ≤ b' ∧ (∀ g, v'.ownBlock = some g → w.heap.size ≤ g) ∧ Keeps (fun _ => False) w w' := by
  have hmx : Tryd.prog.follows .mixedOrders = true := by kernel_rfl
  obtain ⟨al, cl, hv, _, _⟩ := h.row.form
  have hkd : Keeps (fun _ => False) w w.drew := ⟨rfl, rfl, rfl, Nat.le_refl _, fun _ _ _ => rfl⟩
  have hd := h.kept hkd (fun f => f) (fun _ _ f => f)
  obtain ⟨v', w1, HR, hrow, hnew, hk⟩ := app_empty v L w.drew hd.row hL
  have HS : ∀ Z, Keeps (fun _ => False) w.drew Z → Z.cell? ⟨b, 0, none⟩ = some (.int .i64 most) ∧ Z.cell? ⟨b, 1, none⟩ = some (.slice al L.length cl) := fun Z hz => by
    have h1 := hd.kept hz (fun f => f) (fun _ _ f => f)
    exact ⟨cell_of_block h1.box 0, by rw [← hv]; exact cell_of_block h1.box 1⟩
  have hS0 := HS w.drew (Keeps.refl _ _)
  have hS1 := HS (w.drew.alloc (.cells #[] 72)) ((Keeps.refl _ _).alloc _)
  have hS2 := HS w1 hk
  have hS3 := HS (w1.alloc (.cells #[.int .i64 most, v'] 36)) (hk.alloc _)
  have hend : Hid (RefAt (w1.alloc (.cells #[.int .i64 most, v'] 36)) w1.heap.size most L v' ∧ w.heap.size ≤ w1.heap.size ∧ (∀ g, v'.ownBlock = some g → w.heap.size ≤ g) ∧ Keeps (fun _ => False) w (w1.alloc (.cells #[.int .i64 most, v'] 36))) :=
    ⟨⟨alloc_block _ _, hrow.kept ((Keeps.refl (fun _ => False) w1).alloc _) (fun _ _ f => f)⟩, hk.size, hnew, hkd.trans (hk.alloc _)⟩
  obtain ⟨a1, c1, hv1, _, _⟩ := hrow.form
  rw [hv] at HR
  subst hv1
  clear hrow hnew hk hd hkd h HS hv
  go_enter Tryd.func12, Tryd.ntmps12
  go_wp2_with fail
  refine wp_held_end (S := fun W => W.cell? ⟨b, 0, none⟩ = some (.int .i64 most) ∧ W.cell? ⟨b, 1, none⟩ = some (.slice al L.length cl)) 13 rfl hmx ?_
  refine held_take (i := 0) (v := .pointer (some ⟨b, 0, none⟩)) 3 rfl rfl (by kernel_rfl) (by kernel_rfl) (by kernel_rfl) rfl (fun w' hw' => by obtain ⟨q0, q1⟩ := hw'; go_simp) hS0 ?_
  simp only [Act.put, List.setIfInBounds_toArray, List.set_cons_zero, List.set_cons_succ]
  refine held_take (i := 1) (v := .pointer (some ⟨b, 0, none⟩)) 4 rfl rfl (by kernel_rfl) (by kernel_rfl) (by kernel_rfl) rfl (fun w' hw' => by obtain ⟨q0, q1⟩ := hw'; go_simp) hS0 ?_
  simp only [Act.put, List.setIfInBounds_toArray, List.set_cons_zero, List.set_cons_succ]
  refine held_take (i := 2) (v := .pointer (some ⟨b, 0, none⟩)) 5 rfl rfl (by kernel_rfl) (by kernel_rfl) (by kernel_rfl) rfl (fun w' hw' => by obtain ⟨q0, q1⟩ := hw'; go_simp) hS0 ?_
  simp only [Act.put, List.setIfInBounds_toArray, List.set_cons_zero, List.set_cons_succ]
  refine held_take (i := 3) (v := .int .i64 most) 6 rfl rfl (by kernel_rfl) (by kernel_rfl) (by kernel_rfl) rfl (fun w' hw' => by obtain ⟨q0, q1⟩ := hw'; go_simp) hS0 ?_
  simp only [Act.put, List.setIfInBounds_toArray, List.set_cons_zero, List.set_cons_succ]
  refine held_take (i := 5) (v := .pointer (some ⟨b, 0, none⟩)) 8 rfl rfl (by kernel_rfl) (by kernel_rfl) (by kernel_rfl) rfl (fun w' hw' => by obtain ⟨q0, q1⟩ := hw'; go_simp) hS0 ?_
  simp only [Act.put, List.setIfInBounds_toArray, List.set_cons_zero, List.set_cons_succ]
  refine held_take (i := 6) (v := .pointer (some ⟨b, 0, none⟩)) 9 rfl rfl (by kernel_rfl) (by kernel_rfl) (by kernel_rfl) rfl (fun w' hw' => by obtain ⟨q0, q1⟩ := hw'; go_simp) hS0 ?_
  simp only [Act.put, List.setIfInBounds_toArray, List.set_cons_zero, List.set_cons_succ]
  refine held_take (i := 7) (v := .pointer (some ⟨b, 1, none⟩)) 10 rfl rfl (by kernel_rfl) (by kernel_rfl) (by kernel_rfl) rfl (fun w' hw' => by obtain ⟨q0, q1⟩ := hw'; go_simp) hS0 ?_
  simp only [Act.put, List.setIfInBounds_toArray, List.set_cons_zero, List.set_cons_succ]
  refine held_take (i := 8) (v := .slice al L.length cl) 11 rfl rfl (by kernel_rfl) (by kernel_rfl) (by kernel_rfl) rfl (fun w' hw' => by obtain ⟨q0, q1⟩ := hw'; go_simp) hS0 ?_
  simp only [Act.put, List.setIfInBounds_toArray, List.set_cons_zero, List.set_cons_succ]
  refine held_val (i := 4) (v := .slice (some ⟨w.drew.heap.size, 0, none⟩) 0 0) (w' := w.drew.alloc (.cells #[] 72)) (some 7) (by kernel_rfl) rfl rfl rfl (by go_simp) hS1 ?_
  simp only [Act.put, List.setIfInBounds_toArray, List.set_cons_zero, List.set_cons_succ]
  refine held_val (i := 9) (v := .slice a1 L.length c1) (w' := w1) (some 12) (by kernel_rfl) rfl rfl rfl (run_append_op rfl rfl rfl HR.out) hS2 ?_
  simp only [Act.put, List.setIfInBounds_toArray, List.set_cons_zero, List.set_cons_succ]
  clear hS0 hS1 HR
  refine held_take (i := 10) (v := .agg #[.int .i64 most, .slice a1 L.length c1]) 13 rfl rfl (by kernel_rfl) (by kernel_rfl) (by kernel_rfl) rfl (fun w' hw' => by go_simp) hS2 ?_
  simp only [Act.put, List.setIfInBounds_toArray, List.set_cons_zero, List.set_cons_succ]
  refine held_val (i := 11) (v := .pointer (some ⟨w1.heap.size, 0, none⟩)) (w' := w1.alloc (.cells #[.int .i64 most, .slice a1 L.length c1] 36)) (some 14) (by kernel_rfl) rfl rfl rfl (by go_simp) hS3 ?_
  simp only [Act.put, List.setIfInBounds_toArray, List.set_cons_zero, List.set_cons_succ]
  refine held_take (i := 12) (v := .pointer (some ⟨w1.heap.size, 0, none⟩)) 2 rfl rfl (by kernel_rfl) (by kernel_rfl) (by kernel_rfl) rfl (fun w' hw' => by go_simp) hS3 ?_
  simp only [Act.put, List.setIfInBounds_toArray, List.set_cons_zero, List.set_cons_succ]
  refine held_end (by kernel_rfl) ?_ _
  clear hS2 hS3
  go_wp2_with fail
  go_ret
  obtain ⟨q1, q2, q3, q4⟩ := hend.out
  exact ⟨_, _, rfl, q1, q2, q3, q4⟩
end Go.Proofs.YtbgnlenhncbceaaDoor


/-
  A side that is a copy of the other one. No statement of the seat is proved here.
-/
namespace Go.Proofs.YtbgnlenhncbceaaDoor
open Go.RowKit Go.Shelf

theorem Two.copied {Fz : Frm} {w X : World} {most r' b' : Nat} {t : Side} {a : Option Addr} {c : Nat} {u' : Value} (h : SideAt Fz w X most t) (kp : Keeps (fun _ => False) w X) (hv : t.v = .slice a t.es.length c)
    (hrd : ReadAt X r' most t.es (.slice a t.es.length t.es.length)) (hrf : RefAt X b' most t.ls u') (nr : w.heap.size ≤ r') (nb : w.heap.size ≤ b') (rr : r' ≠ t.r) (bb : b' ≠ t.b)
    (nu : ∀ g, u'.ownBlock = some g → w.heap.size ≤ g ∧ t.v.ownBlock ≠ some g ∧ t.u.ownBlock ≠ some g) (zr : Fz r' = none) (zb : Fz b' = none) (zu : ∀ g, u'.ownBlock = some g → Fz g = none) (fz : ∀ k o, Fz k = some o → X.heap[k]? = some o) :
    Two Fz w X most ⟨r', t.es, .slice a t.es.length t.es.length, b', t.ls, u'⟩ t := by
  have ho : (Value.slice a t.es.length t.es.length).ownBlock = t.v.ownBlock := by rw [hv]; cases a <;> rfl
  have hno : ¬ Roomy (.slice a t.es.length t.es.length) := fun e => by rw [roomy_eq] at e; omega
  exact ⟨⟨hrd, hrf, h.pe, h.pl, nr, nb, fun g hg => h.nv g (ho ▸ hg), fun g hg => (nu g hg).1, fun g hg e => (nu g e).2.1 (ho ▸ hg), zr, zb, fun g hg => h.z.2.2.1 g (ho ▸ hg), zu⟩, h, kp, rr, bb, fun g hg => (nu g hg).2.2, fun g hg => (nu g hg).2.1, fun g hg e => h.vu g (ho ▸ e) hg,
    fun g _ _ => ⟨fun e => (hno e).elim, fun _ => ⟨hno, Nat.le_refl _⟩⟩, fz⟩

/-- Copy of both, from the other side. -/
theorem two_copy {Fz : Frm} (w X : World) (most : Nat) (s t : Side) (h : Two Fz w X most s t) (heq : t.ls = t.es) (X1 X2 : World) (r' b' : Nat) (a : Option Addr) (c : Nat) (u' : Value) (hv : t.v = .slice a t.es.length c)
    (hr : X1.heap[r']? = some (.cells #[.bool true, .int .i64 most, .slice a t.es.length t.es.length] 31 (0, 0))) (nr : X.heap.size ≤ r') (k1 : Keeps (fun _ => False) X X1)
    (hrf : RefAt X2 b' most t.ls u') (nb : X1.heap.size ≤ b') (nu : ∀ g, u'.ownBlock = some g → X1.heap.size ≤ g) (k2 : Keeps (fun _ => False) X1 X2) :
    ∃ s', s'.r = r' ∧ s'.b = b' ∧ s'.ls = s'.es ∧ Two Fz w X2 most s' t := by
  have h1 := (h.same k1).same k2
  have hw := h.kp.size
  have h12 := k1.size
  obtain ⟨l1, l2, l3, l4⟩ := h.two.lt
  have hrow := (h1.two.rd.ents).cut (m := t.es.length) (c := t.es.length) (Nat.le_refl _) a c hv ⟨Nat.le_refl _, by
    obtain ⟨a', c', e, h2, _⟩ := h1.two.rd.ents.form
    rw [hv] at e
    injection e with _ _ e
    omega⟩
  rw [entV_take, List.take_length] at hrow
  refine ⟨_, rfl, rfl, ?_, Two.copied h1.two h1.kp hv ⟨k2.old hr (fun f => f), hrow, h1.two.rd.fit, h1.two.rd.most20⟩ hrf (by omega) (by omega) (by omega) (by omega) (fun g hg => ⟨by have := nu g hg; omega, fun e => by have := l3 g e; have := nu g hg; omega, fun e => by have := l4 g e; have := nu g hg; omega⟩) (fz_new h (by omega)) (fz_new h (by omega)) (fun g hg => fz_new h (by have := nu g hg; omega)) h1.fz⟩
  exact heq
end Go.Proofs.YtbgnlenhncbceaaDoor


/-
  Two read logs and the document's two, and the two arrays that name them. No statement of the seat is proved here.
-/
namespace Go.Proofs.YtbgnlenhncbceaaDoor
open Go.RowKit Go.Shelf

def objO (f : Nat → Side) : Obj := .cells #[.pointer (some ⟨(f 0).r, 0, none⟩), .pointer (some ⟨(f 1).r, 0, none⟩)] 33 (0, 0)
def objR (f : Nat → Side) : Obj := .cells #[.pointer (some ⟨(f 0).b, 0, none⟩), .pointer (some ⟨(f 1).b, 0, none⟩)] 37 (0, 0)
def Fr2 (Ao Ar : Nat) (f : Nat → Side) : Frm := fun k => if k = Ao then some (objO f) else if k = Ar then some (objR f) else none
def Fr3 (Ao Ar n : Nat) (f : Nat → Side) (o : Obj) : Frm := fun k => if k = n then some o else Fr2 Ao Ar f k

theorem fr2_none {Ao Ar : Nat} {f : Nat → Side} {k : Nat} : Fr2 Ao Ar f k = none ↔ k ≠ Ao ∧ k ≠ Ar := by
  unfold Fr2
  split
  · simp [*]
  · split <;> simp [*]
theorem fr3_none {Ao Ar n : Nat} {f : Nat → Side} {o : Obj} {k : Nat} : Fr3 Ao Ar n f o k = none ↔ k ≠ n ∧ k ≠ Ao ∧ k ≠ Ar := by
  unfold Fr3
  split
  · simp [*]
  · rw [fr2_none]
    simp [*]

/-- A function turned at one place. -/
def upf {α : Type} (f : Nat → α) (i : Nat) (v : α) : Nat → α := fun j => if j = i then v else f j
theorem upf_same {α : Type} (f : Nat → α) (i : Nat) (v : α) : upf f i v i = v := if_pos rfl
theorem upf_other {α : Type} (f : Nat → α) {i j : Nat} (v : α) (h : j ≠ i) : upf f i v j = f j := if_neg h

/-- The state of a play. -/
structure Duo (w X : World) (most Ao Ar : Nat) (f : Nat → Side) : Prop where
  two : Two (Fr2 Ao Ar f) w X most (f 0) (f 1)
  eq0 : (f 0).ls = (f 0).es
  eq1 : (f 1).ls = (f 1).es
  no : w.heap.size ≤ Ao
  nr : w.heap.size ≤ Ar
  ne : Ao ≠ Ar

section
variable {w X X' : World} {most Ao Ar : Nat} {f : Nat → Side}
theorem Duo.at (h : Duo w X most Ao Ar f) {i j : Nat} (hij : i + j = 1) : Two (Fr2 Ao Ar f) w X most (f i) (f j) ∧ (f i).ls = (f i).es ∧ (f j).ls = (f j).es := by
  have : (i = 0 ∧ j = 1) ∨ (i = 1 ∧ j = 0) := by omega
  rcases this with ⟨rfl, rfl⟩ | ⟨rfl, rfl⟩
  · exact ⟨h.two, h.eq0, h.eq1⟩
  · exact ⟨h.two.swap, h.eq1, h.eq0⟩
theorem duo_of (no : w.heap.size ≤ Ao) (nr : w.heap.size ≤ Ar) (ne : Ao ≠ Ar) {i j : Nat} (hij : i + j = 1) (h : Two (Fr2 Ao Ar f) w X most (f i) (f j)) (e1 : (f i).ls = (f i).es) (e2 : (f j).ls = (f j).es) : Duo w X most Ao Ar f := by
  have : (i = 0 ∧ j = 1) ∨ (i = 1 ∧ j = 0) := by omega
  rcases this with ⟨rfl, rfl⟩ | ⟨rfl, rfl⟩
  · exact ⟨h, e1, e2, no, nr, ne⟩
  · exact ⟨h.swap, e2, e1, no, nr, ne⟩
theorem fr_cells {Fz : Frm} {s t : Side} (h : Two Fz w X most s t) (ho : Fz Ao = some (objO f)) (hr : Fz Ar = some (objR f)) {i : Nat} (hi : i < 2) : X.cell? ⟨Ao, i, none⟩ = some (.pointer (some ⟨(f i).r, 0, none⟩)) ∧ X.cell? ⟨Ar, i, none⟩ = some (.pointer (some ⟨(f i).b, 0, none⟩)) := by
  have h1 := h.fz _ _ ho
  have h2 := h.fz _ _ hr
  rw [cell_of_block h1, cell_of_block h2]
  have : i = 0 ∨ i = 1 := by omega
  rcases this with rfl | rfl <;> exact ⟨rfl, rfl⟩
theorem Duo.cells (h : Duo w X most Ao Ar f) {i : Nat} (hi : i < 2) : X.cell? ⟨Ao, i, none⟩ = some (.pointer (some ⟨(f i).r, 0, none⟩)) ∧ X.cell? ⟨Ar, i, none⟩ = some (.pointer (some ⟨(f i).b, 0, none⟩)) :=
  fr_cells h.two (if_pos rfl) ((if_neg (Ne.symm h.ne)).trans (if_pos rfl)) hi
theorem Duo.same (h : Duo w X most Ao Ar f) (k : Keeps (fun _ => False) X X') : Duo w X' most Ao Ar f := ⟨h.two.same k, h.eq0, h.eq1, h.no, h.nr, h.ne⟩

/-- One block more that stays. -/
theorem Two.grow {Fz : Frm} {s t : Side} (h : Two Fz w X most s t) (o : Obj) : Two (fun k => if k = X.heap.size then some o else Fz k) w (X.alloc o) most s t := by
  have h1 := h.same ((Keeps.refl _ X).alloc o)
  have side : ∀ r : Side, SideAt Fz w X most r → SideAt Fz w (X.alloc o) most r → SideAt (fun k => if k = X.heap.size then some o else Fz k) w (X.alloc o) most r := fun r h0 hr => by
    obtain ⟨l1, l2, l3, l4⟩ := h0.lt
    have hz := hr.z
    refine ⟨hr.rd, hr.rf, hr.pe, hr.pl, hr.nr, hr.nb, hr.nv, hr.nu, hr.vu, (if_neg (by omega)).trans hz.1, (if_neg (by omega)).trans hz.2.1, fun g hg => (if_neg (by have := l3 g hg; omega)).trans (hz.2.2.1 g hg), fun g hg => (if_neg (by have := l4 g hg; omega)).trans (hz.2.2.2 g hg)⟩
  refine ⟨side s h.one h1.one, side t h.two h1.two, h1.kp, h1.rr, h1.bb, h1.uu, h1.uv, h1.vu, h1.sh, fun k o' e => ?_⟩
  by_cases hk : k = X.heap.size
  · subst hk
    rw [if_pos rfl] at e
    cases e
    exact alloc_block X o
  · rw [if_neg hk] at e
    exact h1.fz k o' e

/-- A log that becomes a copy of the other one. -/
theorem copy_state (h : Duo w X most Ao Ar f) {i j : Nat} (hij : i + j = 1) {X1 X2 : World} {r' b' : Nat} {a : Option Addr} {c : Nat} {u' : Value} (hv : (f j).v = .slice a (f j).es.length c)
    (hr : X1.heap[r']? = some (.cells #[.bool true, .int .i64 most, .slice a (f j).es.length (f j).es.length] 31 (0, 0))) (nr : X.heap.size ≤ r') (k1 : Keeps (fun _ => False) X X1)
    (hrf : RefAt X2 b' most (f j).ls u') (nb : (X1.setCell ⟨Ao, i, none⟩ (.pointer (some ⟨r', 0, none⟩))).heap.size ≤ b') (nu : ∀ g, u'.ownBlock = some g → (X1.setCell ⟨Ao, i, none⟩ (.pointer (some ⟨r', 0, none⟩))).heap.size ≤ g) (k2 : Keeps (fun _ => False) (X1.setCell ⟨Ao, i, none⟩ (.pointer (some ⟨r', 0, none⟩))) X2) :
    ∃ f', Duo w (X2.setCell ⟨Ar, i, none⟩ (.pointer (some ⟨b', 0, none⟩))) most Ao Ar f' ∧ (f' i).r = r' ∧ (f' i).b = b' := by
  obtain ⟨hT, e1, e2⟩ := h.at hij
  have hi : i < 2 := by omega
  have hszs : (X1.setCell ⟨Ao, i, none⟩ (.pointer (some ⟨r', 0, none⟩))).heap.size = X1.heap.size := by simp
  rw [hszs] at nb nu
  have z1 := k1.size
  have lo := lt_of_block (h.two.fz Ao _ (if_pos rfl))
  have la := lt_of_block (h.two.fz Ar _ ((if_neg (Ne.symm h.ne)).trans (if_pos rfl)))
  obtain ⟨l1, l2, l3, l4⟩ := hT.two.lt
  have hw := h.two.kp.size
  have hT1 := hT.same k1
  have hb1 : X1.heap[Ao]? = some (objO f) := hT1.fz Ao _ (if_pos rfl)
  have kS : Keeps (fun k => k = Ao) X1 (X1.setCell ⟨Ao, i, none⟩ (.pointer (some ⟨r', 0, none⟩))) := (Keeps.refl (fun k => k = Ao) X1).setCell (p := ⟨Ao, i, none⟩) (.inr rfl) _
  -- the frame with the first array turned
  have hT2 : Two (Fr2 Ao Ar (upf f i ⟨r', (f i).es, (f i).v, (f i).b, (f i).ls, (f i).u⟩)) w (X1.setCell ⟨Ao, i, none⟩ (.pointer (some ⟨r', 0, none⟩))) most (f i) (f j) := by
    refine hT1.store (kS.mono (fun k _ e => by subst e; simp [Fr2])) (fun q hq => ?_) (fun q o e => ?_) (fun q hq => ?_)
    · have : q = Ao ∨ q = Ar := by
        apply Classical.byContradiction
        intro hne
        exact hq (fr2_none.2 ⟨fun e => hne (.inl e), fun e => hne (.inr e)⟩)
      rcases this with rfl | rfl
      · exact h.no
      · exact h.nr
    · unfold Fr2 at e
      split at e
      · rename_i hq
        subst hq
        cases e
        rw [block_set hb1]
        have : i = 0 ∨ i = 1 := by omega
        rcases this with rfl | rfl <;> rfl
      · split at e
        · rename_i hq hq2
          subst hq2
          cases e
          have := (kS.block q (by omega) hq).trans (hT1.fz q _ ((if_neg hq).trans (if_pos rfl)))
          rw [this]
          have hi2 : i = 0 ∨ i = 1 := by omega
          rcases hi2 with rfl | rfl <;> rfl
        · cases e
    · exact fr2_none.2 (fr2_none.1 hq)
  have hT3 := hT2.same k2
  have hb3 : X2.heap[Ar]? = _ := hT3.fz Ar _ ((if_neg (Ne.symm h.ne)).trans (if_pos rfl))
  have hr2 : X2.heap[r']? = some (.cells #[.bool true, .int .i64 most, .slice a (f j).es.length (f j).es.length] 31 (0, 0)) := k2.old (kS.old hr (by omega)) (fun f => f)
  have hrow := (hT3.two.rd.ents).cut (m := (f j).es.length) (c := (f j).es.length) (Nat.le_refl _) a c hv ⟨Nat.le_refl _, by
    obtain ⟨a', c', e, h2, _⟩ := hT3.two.rd.ents.form
    rw [hv] at e
    injection e with _ _ e
    omega⟩
  rw [entV_take, List.take_length] at hrow
  have hC : Two (Fr2 Ao Ar (upf f i ⟨r', (f i).es, (f i).v, (f i).b, (f i).ls, (f i).u⟩)) w X2 most ⟨r', (f j).es, .slice a (f j).es.length (f j).es.length, b', (f j).ls, u'⟩ (f j) :=
    Two.copied hT3.two hT3.kp hv ⟨hr2, hrow, hT3.two.rd.fit, hT3.two.rd.most20⟩ hrf (by omega) (by omega) (by omega) (by omega) (fun g hg => ⟨by have := nu g hg; omega, fun e => by have := l3 g e; have := nu g hg; omega, fun e => by have := l4 g e; have := nu g hg; omega⟩)
      (fr2_none.2 ⟨by omega, by omega⟩) (fr2_none.2 ⟨by omega, by omega⟩) (fun g hg => fr2_none.2 ⟨by have := nu g hg; omega, by have := nu g hg; omega⟩) hT3.fz
  have kR : Keeps (fun k => k = Ar) X2 (X2.setCell ⟨Ar, i, none⟩ (.pointer (some ⟨b', 0, none⟩))) := (Keeps.refl (fun k => k = Ar) X2).setCell (p := ⟨Ar, i, none⟩) (.inr rfl) _
  refine ⟨upf f i ⟨r', (f j).es, .slice a (f j).es.length (f j).es.length, b', (f j).ls, u'⟩, ?_, by rw [upf_same], by rw [upf_same]⟩
  have hji : j ≠ i := by omega
  refine duo_of h.no h.nr h.ne hij ?_ (by rw [upf_same]; exact e2) (by rw [upf_other _ _ hji]; exact e2)
  rw [upf_same, upf_other _ _ hji]
  refine hC.store (kR.mono (fun k _ e => by subst e; simp [Fr2, Ne.symm h.ne])) (fun q hq => ?_) (fun q o e => ?_) (fun q hq => fr2_none.2 (fr2_none.1 hq))
  · have : q = Ao ∨ q = Ar := by
      apply Classical.byContradiction
      intro hne
      exact hq (fr2_none.2 ⟨fun e => hne (.inl e), fun e => hne (.inr e)⟩)
    rcases this with rfl | rfl
    · exact h.no
    · exact h.nr
  · unfold Fr2 at e
    split at e
    · rename_i hq
      subst hq
      cases e
      have := (kR.block q (by have := k2.size; omega) h.ne).trans (hT3.fz q _ (if_pos rfl))
      rw [this]
      have hi2 : i = 0 ∨ i = 1 := by omega
      rcases hi2 with rfl | rfl <;> rfl
    · split at e
      · rename_i hq hq2
        subst hq2
        cases e
        rw [block_set hb3]
        have hi2 : i = 0 ∨ i = 1 := by omega
        rcases hi2 with rfl | rfl <;> rfl
      · cases e
end
end Go.Proofs.YtbgnlenhncbceaaDoor


/-
  LogsReads where the logs are made. The statement itself is not proved here.
-/
namespace Go.Proofs.YtbgnlenhncbceaaDoor
open Go.RowKit Go.Shelf
attribute [local go_sem] Oper.semAt_some

def boxR (most : Nat) : Obj := .cells #[.int .i64 most, .slice none 0 0] 36 (0, 0)
def firstS (r0 r1 b0 b1 : Nat) : Nat → Side := fun i => if i = 0 then ⟨r0, [], .slice none 0 0, b0, [], .slice none 0 0⟩ else ⟨r1, [], .slice none 0 0, b1, [], .slice none 0 0⟩

theorem idx2 (on : Int) : ∃ i j : Nat, i + j = 1 ∧ (wrap64 (on.tmod 2 + 2)).tmod 2 = (i : Int) ∧ (1 : Int) - (i : Int) = (j : Int) := by
  have h : on.tmod 2 = -1 ∨ on.tmod 2 = 0 ∨ on.tmod 2 = 1 := by
    have h1 := Int.lt_tmod_of_pos on (show (0 : Int) < 2 by decide)
    have h2 := Int.tmod_lt_of_pos on (show (0 : Int) < 2 by decide)
    omega
  rcases h with h | h | h
  · exact ⟨1, 0, by omega, by rw [h]; decide +kernel, by omega⟩
  · exact ⟨0, 1, by omega, by rw [h]; decide +kernel, by omega⟩
  · exact ⟨1, 0, by omega, by rw [h]; decide +kernel, by omega⟩

theorem nil_row (w : World) (t : TypeId) : Row w t 2 (.slice none 0 0) 0 [] := ⟨rfl, .inl ⟨rfl, rfl⟩⟩

theorem duo_init (most : Nat) (w X1 X2 : World) (h0 : ReadAt X1 w.heap.size most [] (.slice none 0 0)) (k0 : Keeps (fun _ => False) w X1) (h1 : ReadAt X2 X1.heap.size most [] (.slice none 0 0)) (k1 : Keeps (fun _ => False) X1 X2) :
    Duo w ((((X2.alloc (objO (firstS w.heap.size X1.heap.size (X2.heap.size + 1) (X2.heap.size + 1 + 1)))).alloc (boxR most)).alloc (boxR most)).alloc (objR (firstS w.heap.size X1.heap.size (X2.heap.size + 1) (X2.heap.size + 1 + 1)))) most X2.heap.size (X2.heap.size + 1 + 1 + 1) (firstS w.heap.size X1.heap.size (X2.heap.size + 1) (X2.heap.size + 1 + 1)) := by
  have l0 := lt_of_block h0.box
  have l1 := lt_of_block h1.box
  have s1 := k1.size
  have hz : ∀ (W : World) o, (W.alloc o).heap.size = W.heap.size + 1 := fun W o => by simp
  generalize hf : firstS w.heap.size X1.heap.size (X2.heap.size + 1) (X2.heap.size + 1 + 1) = f
  have f0 : f 0 = ⟨w.heap.size, [], .slice none 0 0, X2.heap.size + 1, [], .slice none 0 0⟩ := by rw [← hf]; rfl
  have f1 : f 1 = ⟨X1.heap.size, [], .slice none 0 0, X2.heap.size + 1 + 1, [], .slice none 0 0⟩ := by rw [← hf]; rfl
  clear hf
  have b0 : (X2.alloc (objO f)).heap[X2.heap.size]? = some (objO f) := alloc_block _ _
  have b1 : ((X2.alloc (objO f)).alloc (boxR most)).heap[X2.heap.size + 1]? = some (boxR most) := by rw [← hz X2 (objO f)]; exact alloc_block _ _
  have b2 : (((X2.alloc (objO f)).alloc (boxR most)).alloc (boxR most)).heap[X2.heap.size + 1 + 1]? = some (boxR most) := by rw [← hz X2 (objO f), ← hz (X2.alloc (objO f)) (boxR most)]; exact alloc_block _ _
  have b3 : ((((X2.alloc (objO f)).alloc (boxR most)).alloc (boxR most)).alloc (objR f)).heap[X2.heap.size + 1 + 1 + 1]? = some (objR f) := by rw [← hz X2 (objO f), ← hz (X2.alloc (objO f)) (boxR most), ← hz ((X2.alloc (objO f)).alloc (boxR most)) (boxR most)]; exact alloc_block _ _
  have kA : Keeps (fun _ => False) X2 ((((X2.alloc (objO f)).alloc (boxR most)).alloc (boxR most)).alloc (objR f)) := ((((Keeps.refl _ X2).alloc _).alloc _).alloc _).alloc _
  have b0' := alloc_old (alloc_old (alloc_old b0 (boxR most)) (boxR most)) (objR f)
  have b1' := alloc_old (alloc_old b1 (boxR most)) (objR f)
  have b2' := alloc_old b2 (objR f)
  generalize (((X2.alloc (objO f)).alloc (boxR most)).alloc (boxR most)).alloc (objR f) = X at *
  have k2 : Keeps (fun _ => False) X1 X := k1.trans kA
  have hfr : ∀ k, k ≠ X2.heap.size → k ≠ X2.heap.size + 1 + 1 + 1 → Fr2 X2.heap.size (X2.heap.size + 1 + 1 + 1) f k = none := fun k e1 e2 => fr2_none.2 ⟨e1, e2⟩
  have ws := k0.size
  refine ⟨⟨?_, ?_, k0.trans k2, ?_, ?_, ?_, ?_, ?_, ?_, fun k o e => ?_⟩, by rw [f0], by rw [f1], by omega, by omega, by omega⟩
  · rw [f0]
    exact ⟨h0.kept k2 (fun f => f) (fun _ _ f => f), ⟨b1', nil_row _ _⟩, by simp, by simp, Nat.le_refl _, (by show w.heap.size ≤ X2.heap.size + 1; omega), by simp [Value.ownBlock], by simp [Value.ownBlock], by simp [Value.ownBlock], hfr _ (by show w.heap.size ≠ _; omega) (by show w.heap.size ≠ _; omega), hfr _ (by show X2.heap.size + 1 ≠ _; omega) (by show X2.heap.size + 1 ≠ _; omega), by simp [Value.ownBlock], by simp [Value.ownBlock]⟩
  · rw [f1]
    exact ⟨h1.kept kA (fun f => f) (fun _ _ f => f), ⟨b2', nil_row _ _⟩, by simp, by simp, (by show w.heap.size ≤ X1.heap.size; omega), (by show w.heap.size ≤ X2.heap.size + 1 + 1; omega), by simp [Value.ownBlock], by simp [Value.ownBlock], by simp [Value.ownBlock], hfr _ (by show X1.heap.size ≠ _; omega) (by show X1.heap.size ≠ _; omega), hfr _ (by show X2.heap.size + 1 + 1 ≠ _; omega) (by show X2.heap.size + 1 + 1 ≠ _; omega), by simp [Value.ownBlock], by simp [Value.ownBlock]⟩
  · rw [f0, f1]
    show w.heap.size ≠ X1.heap.size
    omega
  · rw [f0, f1]
    show X2.heap.size + 1 ≠ X2.heap.size + 1 + 1
    omega
  · rw [f0]; simp [Value.ownBlock]
  · rw [f0]; simp [Value.ownBlock]
  · rw [f1]; simp [Value.ownBlock]
  · rw [f0]; simp [Value.ownBlock]
  · unfold Fr2 at e
    split at e
    · rename_i hk
      subst hk
      cases e
      exact b0'
    · split at e
      · rename_i hk
        subst hk
        cases e
        exact b3
      · cases e

theorem keeps_cell {S : Nat → Prop} {w w' : World} (k : Keeps S w w') {a : Addr} {v : Value} (hs : ¬ S a.block) (h : w.cell? a = some v) : w'.cell? a = some v :=
  (World.cell?_of_block (k.block a.block (World.block_lt_of_cell? _ _ h) hs)).trans h

def opO (kd on ad wd m : Int) (ac : Option Addr) (nc cc : Nat) : Obj := .cells #[.int .i64 kd, .int .i64 on, .int .u64 ad, .int .u64 wd, .int .i64 m, .slice ac nc cc] 41 (0, 0)

section
variable {w X X' : World} {most Ao Ar n : Nat} {f : Nat → Side} {s t : Side} {kd on ad wd m : Int} {ac : Option Addr} {nc cc : Nat}
/-- The call's own block stays, too. -/
theorem Two.op (h : Two (Fr2 Ao Ar f) w X most s t) (hb : X.heap[n]? = some (opO kd on ad wd m ac nc cc)) : Two (Fr3 Ao Ar n f (opO kd on ad wd m ac nc cc)) w X most s t := by
  have side : ∀ r : Side, SideAt (Fr2 Ao Ar f) w X most r → SideAt (Fr3 Ao Ar n f (opO kd on ad wd m ac nc cc)) w X most r := fun r hr => by
    have hz := hr.z
    have e1 : r.r ≠ n := fun e => by
      have h1 := hr.rd.box
      rw [e] at h1
      exact absurd (kind_ne h1 hb) (by decide)
    have e2 : r.b ≠ n := fun e => by
      have h1 := hr.rf.box
      rw [e] at h1
      exact absurd (kind_ne h1 hb) (by decide)
    have e3 : ∀ g, r.v.ownBlock = some g → g ≠ n := fun g hg e => by
      obtain ⟨c, hc⟩ := hr.rd.ents.kind hg
      rw [e] at hc
      exact absurd (kind_ne hc hb) (by decide)
    have e4 : ∀ g, r.u.ownBlock = some g → g ≠ n := fun g hg e => by
      obtain ⟨c, hc⟩ := hr.rf.row.kind hg
      rw [e] at hc
      exact absurd (kind_ne hc hb) (by decide)
    exact ⟨hr.rd, hr.rf, hr.pe, hr.pl, hr.nr, hr.nb, hr.nv, hr.nu, hr.vu, (if_neg e1).trans hz.1, (if_neg e2).trans hz.2.1, fun g hg => (if_neg (e3 g hg)).trans (hz.2.2.1 g hg), fun g hg => (if_neg (e4 g hg)).trans (hz.2.2.2 g hg)⟩
  refine ⟨side s h.one, side t h.two, h.kp, h.rr, h.bb, h.uu, h.uv, h.vu, h.sh, fun k o e => ?_⟩
  unfold Fr3 at e
  split at e
  · rename_i hk
    subst hk
    cases e
    exact hb
  · exact h.fz k o e

/-- What a call leaves. -/
theorem step_state (no : w.heap.size ≤ Ao) (nr : w.heap.size ≤ Ar) (ne : Ao ≠ Ar) (na : n ≠ Ao) (nb : n ≠ Ar) {i j : Nat} (hij : i + j = 1) {o : Obj} (h : Two (Fr3 Ao Ar n f o) w X most s (f j)) (e1 : s.r = (f i).r) (e2 : s.b = (f i).b) (e3 : s.ls = s.es) (e4 : (f j).ls = (f j).es) : Duo w X most Ao Ar (upf f i s) := by
  have hji : j ≠ i := by omega
  refine duo_of no nr ne hij ?_ (by rw [upf_same]; exact e3) (by rw [upf_other _ _ hji]; exact e4)
  rw [upf_same, upf_other _ _ hji]
  have ho : objO (upf f i s) = objO f := by
    have : (i = 0 ∧ j = 1) ∨ (i = 1 ∧ j = 0) := by omega
    rcases this with ⟨rfl, rfl⟩ | ⟨rfl, rfl⟩ <;> simp [objO, upf, e1]
  have hr : objR (upf f i s) = objR f := by
    have : (i = 0 ∧ j = 1) ∨ (i = 1 ∧ j = 0) := by omega
    rcases this with ⟨rfl, rfl⟩ | ⟨rfl, rfl⟩ <;> simp [objR, upf, e2]
  have hF : Fr2 Ao Ar (upf f i s) = Fr2 Ao Ar f := by
    unfold Fr2
    rw [ho, hr]
  rw [hF]
  have side : ∀ r : Side, SideAt (Fr3 Ao Ar n f o) w X most r → SideAt (Fr2 Ao Ar f) w X most r := fun r hr => by
    have hz := hr.z
    have up : ∀ k, Fr3 Ao Ar n f o k = none → Fr2 Ao Ar f k = none := fun k hk => fr2_none.2 (fr3_none.1 hk).2
    exact ⟨hr.rd, hr.rf, hr.pe, hr.pl, hr.nr, hr.nb, hr.nv, hr.nu, hr.vu, up _ hz.1, up _ hz.2.1, fun g hg => up _ (hz.2.2.1 g hg), fun g hg => up _ (hz.2.2.2 g hg)⟩
  refine ⟨side _ h.one, side _ h.two, h.kp, h.rr, h.bb, h.uu, h.uv, h.vu, h.sh, fun k o' e => h.fz k o' ?_⟩
  unfold Fr3
  rw [if_neg (fun hk => ?_)]
  · exact e
  · subst hk
    have := (fr2_none (Ao := Ao) (Ar := Ar) (f := f)).2 ⟨na, nb⟩
    rw [this] at e
    cases e

/-- The call of the law's step, with the blocks that it leaves. -/
theorem play_step (h : Duo w X most Ao Ar f) (hb : X.heap[n]? = some (opO kd on ad wd m ac nc cc)) {i j : Nat} (hij : i + j = 1) {cs : List Int} (hnc : nc = cs.length) (hc : Reads w (.slice ac cs.length cc) cs) (had : 0 ≤ ad) (hcb : cs.length * 8 ≤ 140737488351232) (na : n ≠ Ao) (nb : n ≠ Ar) :
    ∀ W0, Like W0 X → Calls Tryd.prog 13 #[.pointer (some ⟨(f i).r, 0, none⟩), .pointer (some ⟨(f i).b, 0, none⟩), .agg #[.int .i64 kd, .int .i64 on, .int .u64 ad, .int .u64 wd, .int .i64 m, .slice ac nc cc]] W0 fun e w4 => e = .returned (.bool true) ∧
      (w4.cell? ⟨Ao, i, none⟩ = some (.pointer (some ⟨(f i).r, 0, none⟩)) ∧ w4.cell? ⟨Ar, i, none⟩ = some (.pointer (some ⟨(f i).b, 0, none⟩)) ∧ w4.cell? ⟨n, 0, none⟩ = some (.int .i64 kd) ∧ w4.cell? ⟨n, 1, none⟩ = some (.int .i64 on) ∧ w4.cell? ⟨n, 2, none⟩ = some (.int .u64 ad) ∧ w4.cell? ⟨n, 3, none⟩ = some (.int .u64 wd) ∧ w4.cell? ⟨n, 4, none⟩ = some (.int .i64 m) ∧ w4.cell? ⟨n, 5, none⟩ = some (.slice ac nc cc)) ∧ Hid (∃ f', Duo w w4 most Ao Ar f') := fun W0 hl => by
  subst hnc
  have hk0 := hl.keeps (Keeps.refl (fun _ => False) X)
  have hD0 := h.same hk0
  obtain ⟨hT, e1, e2⟩ := hD0.at hij
  have hT3 := hT.op (hk0.old hb (fun f => f))
  refine (reads_step w W0 most (f i) (f j) hT3 e1 kd on ad wd m ac cc cs hc had hcb).mono ?_
  rintro e w4 ⟨rfl, s', r1, r2, r3, hT4⟩
  have hb4 := hT4.fz n _ (if_pos rfl)
  have hcl := fr_cells (f := f) (Ao := Ao) (Ar := Ar) hT4 ((if_neg (Ne.symm na)).trans (if_pos rfl)) ((if_neg (Ne.symm nb)).trans ((if_neg (Ne.symm h.ne)).trans (if_pos rfl))) (i := i) (by omega)
  exact ⟨rfl, ⟨hcl.1, hcl.2, cell_of_block hb4 0, cell_of_block hb4 1, cell_of_block hb4 2, cell_of_block hb4 3, cell_of_block hb4 4, cell_of_block hb4 5⟩, _, step_state h.no h.nr h.ne na nb hij hT4 r1 r2 r3 e2⟩
end
end Go.Proofs.YtbgnlenhncbceaaDoor


/-
  LogsReads where the logs are made: its walk. The statement itself is not proved here.
-/
namespace Go.Proofs.YtbgnlenhncbceaaDoor
open Go.RowKit Go.Shelf
attribute [local go_sem] Oper.semAt_some

set_option maxRecDepth 100000 in
set_option maxHeartbeats 16000000 in
theorem rd_in (most : Nat) (hm : most ≤ 1048576) (a : Option Addr) (n c : Nat) (w : World) (hw : Tz w) (ho : OpsAt w a n) (hn : n * 64 ≤ 140737488351232) :
    Calls Tryd.prog 3 #[.int .i64 most, .slice a n c] w fun e w' => e = .returned (.bool true) ∧ Keeps (fun _ => False) w w' := by
  have hd0 : decide ((most : Int) < 0) = false := by simp
  have hd1 : decide ((1048576 : Int) < (most : Int)) = false := by simp; omega
  go_enter Tryd.func3, Tryd.ntmps3
  go_wp2_with fail
  refine (reads_new most hm _).mono ?_
  rintro e X1 ⟨rfl, h0, k0⟩
  go_wp2_with fail
  refine (reads_new most hm _).mono ?_
  rintro e X2 ⟨rfl, h1, k1⟩
  have hI : Hid _ := duo_init most w X1 X2 h0 k0 h1 k1
  clear h0 k0 h1 k1
  go_wp2_with (go_at_call 8; refine (num_any _ _).mono ?_; rintro e w' ⟨rfl, hw'⟩; replace hw' := hw'.symm; subst hw')
  go_loopw [11] (fun i wr => ∃ (k : Nat) (f : Nat → Side), k ≤ n ∧ i = .int .i64 k ∧ Duo w wr most X2.heap.size (X2.heap.size + 1 + 1 + 1) f) (fun i _ => n - (intOf i).toNat)
  case atStart => exact ⟨0, _, by omega, rfl, hI.out⟩
  case round =>
    clear hI hd0 hd1
    obtain ⟨k, f, hk, rfl, hD⟩ := hrel
    by_cases hlt : k < n
    · have hlt' : (k : Int) < (n : Int) := by omega
      obtain ⟨g, off, rfl, o, hgood, e0, e1, e2, e3, e4, e5⟩ := ho k hlt
      obtain ⟨kd, on, ad, wd, m, ac, cc, cs⟩ := o
      obtain ⟨had, hlies, hcb⟩ := hgood
      have hc : Reads w (.slice ac cs.length cc) cs := ⟨by simp only at hcb; omega, hlies⟩
      have kp := hD.two.kp
      replace e0 := keeps_cell kp (fun f => f) e0
      replace e1 := keeps_cell kp (fun f => f) e1
      replace e2 := keeps_cell kp (fun f => f) e2
      replace e3 := keeps_cell kp (fun f => f) e3
      replace e4 := keeps_cell kp (fun f => f) e4
      replace e5 := keeps_cell kp (fun f => f) e5
      obtain ⟨i, j, hij, hix, hjx⟩ := idx2 on
      have hi : i < 2 := by omega
      have hj : j < 2 := by omega
      have hi0 : (0 : Int) ≤ (i : Int) := by omega
      have hi1 : (i : Int) < 2 := by omega
      have hj0 : (0 : Int) ≤ (j : Int) := by omega
      have hj1 : (j : Int) < 2 := by omega
      have hlO := lt_of_block (hD.two.fz X2.heap.size _ (if_pos rfl))
      have hlR := lt_of_block (hD.two.fz (X2.heap.size + 1 + 1 + 1) _ ((if_neg (by omega)).trans (if_pos rfl)))
      have hD1 := hD.same ((Keeps.refl _ wr).alloc (opO kd on ad wd m ac cs.length cc))
      have hb1 := alloc_block wr (opO kd on ad wd m ac cs.length cc)
      have q0 := cell_of_block hb1 0
      have q1 := cell_of_block hb1 1
      simp only [List.getElem?_toArray, List.getElem?_cons_zero, List.getElem?_cons_succ] at q0 q1
      unfold opO at q0 q1
      simp only [] at had hcb
      clear hD kp hlies
      cases hkd : (kd == 6)
      · have hpl := play_step hD1 hb1 hij rfl hc had hcb (by omega) (by omega)
        have m1 := hD1.cells hi
        have hS0 : (fun W => W.cell? ⟨X2.heap.size, i, none⟩ = some (.pointer (some ⟨(f i).r, 0, none⟩)) ∧ W.cell? ⟨X2.heap.size + 1 + 1 + 1, i, none⟩ = some (.pointer (some ⟨(f i).b, 0, none⟩)) ∧ W.cell? ⟨wr.heap.size, 0, none⟩ = some (.int .i64 kd) ∧ W.cell? ⟨wr.heap.size, 1, none⟩ = some (.int .i64 on) ∧ W.cell? ⟨wr.heap.size, 2, none⟩ = some (.int .u64 ad) ∧ W.cell? ⟨wr.heap.size, 3, none⟩ = some (.int .u64 wd) ∧ W.cell? ⟨wr.heap.size, 4, none⟩ = some (.int .i64 m) ∧ W.cell? ⟨wr.heap.size, 5, none⟩ = some (.slice ac cs.length cc)) (wr.alloc (opO kd on ad wd m ac cs.length cc)) := ⟨m1.1, m1.2, cell_of_block hb1 0, cell_of_block hb1 1, cell_of_block hb1 2, cell_of_block hb1 3, cell_of_block hb1 4, cell_of_block hb1 5⟩
        dsimp only at hS0
        unfold opO at hS0 hpl
        clear hD1 hb1 ho
        go_wp2_with fail
        go_region_held3 (fun W => W.cell? ⟨X2.heap.size, i, none⟩ = some (.pointer (some ⟨(f i).r, 0, none⟩)) ∧ W.cell? ⟨X2.heap.size + 1 + 1 + 1, i, none⟩ = some (.pointer (some ⟨(f i).b, 0, none⟩)) ∧ W.cell? ⟨wr.heap.size, 0, none⟩ = some (.int .i64 kd) ∧ W.cell? ⟨wr.heap.size, 1, none⟩ = some (.int .i64 on) ∧ W.cell? ⟨wr.heap.size, 2, none⟩ = some (.int .u64 ad) ∧ W.cell? ⟨wr.heap.size, 3, none⟩ = some (.int .u64 wd) ∧ W.cell? ⟨wr.heap.size, 4, none⟩ = some (.int .i64 m) ∧ W.cell? ⟨wr.heap.size, 5, none⟩ = some (.slice ac cs.length cc)) (first | assumption | (exact hS0) | go_keep) ((go_at_call 13; refine (hpl _ (by exact ⟨rfl, rfl, rfl, rfl⟩)).mono ?_; rintro e w4 ⟨rfl, hSS, hH⟩))
        obtain ⟨f4, hD4⟩ := hH.out
        clear hpl hH hSS hS0 m1
        go_wp2_with fail
        go_roundw
        case rel => exact ⟨k + 1, f4, by omega, by go_num, hD4⟩
        case measure => simp [intOf]; omega
      · obtain ⟨hTj, ej1, ej2⟩ := hD1.at hij
        obtain ⟨av, cv, hv, hcv1, hcv2⟩ := hTj.two.rd.ents.form
        have hrd := hTj.two.rd
        rw [hv] at hrd
        have hcp := reads_copy _ most _ av cv _ hrd
        have mj := (hD1.cells hj).1
        have hlen : (f j).ls.length < 4398046511104 := by rw [ej2]; have := hTj.two.rd.fit; have := hTj.two.rd.most20; omega
        have HD1 : Hid (Duo w (wr.alloc (opO kd on ad wd m ac cs.length cc)) most X2.heap.size (X2.heap.size + 1 + 1 + 1) f) := hD1
        have HB1 : Hid ((wr.alloc (opO kd on ad wd m ac cs.length cc)).heap[wr.heap.size]? = some (opO kd on ad wd m ac cs.length cc)) := hb1
        have HV : Hid ((f j).v = .slice av (f j).es.length cv) := hv
        clear hTj ej1 hrd hD1 hb1 hv hcv1 hcv2 ho
        unfold opO at mj hcp
        go_wp2_with fail
        refine hcp.mono ?_
        rintro e Y1 ⟨r', nr', rfl, hr', ky1⟩
        have hDy := HD1.out.same ky1
        have sz1 := ky1.size
        have sz0 : (wr.alloc (opO kd on ad wd m ac cs.length cc)).heap.size = wr.heap.size + 1 := by simp
        obtain ⟨hTy, ey1, ey2⟩ := hDy.at hij
        have y1 := (hDy.cells hi).1
        have y2 := frozen_of_block (hDy.two.fz X2.heap.size _ (if_pos rfl)) i
        have hbR : Y1.heap[X2.heap.size + 1 + 1 + 1]? = some (objR f) := hDy.two.fz _ _ ((if_neg (by omega)).trans (if_pos rfl))
        have kS : Keeps (fun k => k = X2.heap.size) Y1 (Y1.setCell ⟨X2.heap.size, i, none⟩ (.pointer (some ⟨r', 0, none⟩))) := (Keeps.refl (fun k => k = X2.heap.size) Y1).setCell (p := ⟨X2.heap.size, i, none⟩) (.inr rfl) _
        have hbR2 := kS.old hbR (by omega)
        have y3 : (Y1.setCell ⟨X2.heap.size, i, none⟩ (.pointer (some ⟨r', 0, none⟩))).cell? ⟨X2.heap.size + 1 + 1 + 1, j, none⟩ = some (.pointer (some ⟨(f j).b, 0, none⟩)) := keeps_cell kS (a := ⟨X2.heap.size + 1 + 1 + 1, j, none⟩) (by show ¬ X2.heap.size + 1 + 1 + 1 = X2.heap.size; omega) (hDy.cells hj).2
        have hrf1 : RefAt (Y1.setCell ⟨X2.heap.size, i, none⟩ (.pointer (some ⟨r', 0, none⟩))) (f j).b most (f j).ls (f j).u := hTy.two.rf.kept kS (fr2_none.1 hTy.two.z.2.1).1 (fun g hg => (fr2_none.1 (hTy.two.z.2.2.2 g hg)).1)
        have hrc := ref_copy _ most _ _ _ hrf1 hlen
        have HCS : Hid (∀ Y2 b' u', RefAt Y2 b' most (f j).ls u' → (Y1.setCell ⟨X2.heap.size, i, none⟩ (.pointer (some ⟨r', 0, none⟩))).heap.size ≤ b' → (∀ g, u'.ownBlock = some g → (Y1.setCell ⟨X2.heap.size, i, none⟩ (.pointer (some ⟨r', 0, none⟩))).heap.size ≤ g) → Keeps (fun _ => False) (Y1.setCell ⟨X2.heap.size, i, none⟩ (.pointer (some ⟨r', 0, none⟩))) Y2 → ∃ f', Duo w (Y2.setCell ⟨X2.heap.size + 1 + 1 + 1, i, none⟩ (.pointer (some ⟨b', 0, none⟩))) most X2.heap.size (X2.heap.size + 1 + 1 + 1) f' ∧ (f' i).r = r' ∧ (f' i).b = b') := fun Y2 b' u' h1 h2 h3 h4 => copy_state HD1.out hij HV.out hr' nr' ky1 h1 h2 h3 h4
        have HBY : Hid ((Y1.setCell ⟨X2.heap.size, i, none⟩ (.pointer (some ⟨r', 0, none⟩))).heap[wr.heap.size]? = some (opO kd on ad wd m ac cs.length cc)) := kS.old (ky1.old HB1.out (fun f => f)) (by omega)
        have HBR : Hid ((Y1.setCell ⟨X2.heap.size, i, none⟩ (.pointer (some ⟨r', 0, none⟩))).heap[X2.heap.size + 1 + 1 + 1]? = some (objR f)) := hbR2
        clear hcp hDy sz1 sz0 hTy ey1 ey2 hbR kS hbR2 hrf1 ky1 hr' nr' HD1 HB1 HV mj e0 e1 e2 e3 e4 e5 q0 q1
        go_wp2_with fail
        refine hrc.mono ?_
        rintro e Y2 ⟨b', u', rfl, hrf2, nb', nu', ky2⟩
        obtain ⟨f', hD3, er, eb⟩ := HCS.out Y2 b' u' hrf2 nb' nu' ky2
        have hbR2 : Y2.heap[X2.heap.size + 1 + 1 + 1]? = some (objR f) := ky2.old HBR.out (fun f => f)
        have y4 : Y2.cell? ⟨X2.heap.size + 1 + 1 + 1, i, none⟩ = some (.pointer (some ⟨(f i).b, 0, none⟩)) := by rw [cell_of_block hbR2]; have hi2 : i = 0 ∨ i = 1 := (by omega); rcases hi2 with rfl | rfl <;> rfl
        have y5 := frozen_of_block hbR2 i
        have kR : Keeps (fun k => k = X2.heap.size + 1 + 1 + 1) Y2 (Y2.setCell ⟨X2.heap.size + 1 + 1 + 1, i, none⟩ (.pointer (some ⟨b', 0, none⟩))) := (Keeps.refl (fun k => k = X2.heap.size + 1 + 1 + 1) Y2).setCell (p := ⟨X2.heap.size + 1 + 1 + 1, i, none⟩) (.inr rfl) _
        have hb3 : (Y2.setCell ⟨X2.heap.size + 1 + 1 + 1, i, none⟩ (.pointer (some ⟨b', 0, none⟩))).heap[wr.heap.size]? = some (opO kd on ad wd m ac cs.length cc) := kR.old (ky2.old HBY.out (fun f => f)) (by omega)
        clear hrc HCS HBY HBR hrf2 nb' nu' ky2 hbR2 kR y1 y2 y3
        have HD3 : Hid (Duo w (Y2.setCell ⟨X2.heap.size + 1 + 1 + 1, i, none⟩ (.pointer (some ⟨b', 0, none⟩))) most X2.heap.size (X2.heap.size + 1 + 1 + 1) f') := hD3
        have HB3 : Hid ((Y2.setCell ⟨X2.heap.size + 1 + 1 + 1, i, none⟩ (.pointer (some ⟨b', 0, none⟩))).heap[wr.heap.size]? = some (opO kd on ad wd m ac cs.length cc)) := hb3
        clear hD3 hb3
        go_wp2_with fail
        have hD3 := HD3.out
        have hb3 := HB3.out
        clear HD3 HB3 y4 y5
        generalize Y2.setCell ⟨X2.heap.size + 1 + 1 + 1, i, none⟩ (.pointer (some ⟨b', 0, none⟩)) = Y3 at *
        have hpl := play_step hD3 hb3 hij rfl hc had hcb (by omega) (by omega)
        have m1 := hD3.cells hi; rw [er, eb] at m1
        have hS0 : (fun W => W.cell? ⟨X2.heap.size, i, none⟩ = some (.pointer (some ⟨r', 0, none⟩)) ∧ W.cell? ⟨X2.heap.size + 1 + 1 + 1, i, none⟩ = some (.pointer (some ⟨b', 0, none⟩)) ∧ W.cell? ⟨wr.heap.size, 0, none⟩ = some (.int .i64 kd) ∧ W.cell? ⟨wr.heap.size, 1, none⟩ = some (.int .i64 on) ∧ W.cell? ⟨wr.heap.size, 2, none⟩ = some (.int .u64 ad) ∧ W.cell? ⟨wr.heap.size, 3, none⟩ = some (.int .u64 wd) ∧ W.cell? ⟨wr.heap.size, 4, none⟩ = some (.int .i64 m) ∧ W.cell? ⟨wr.heap.size, 5, none⟩ = some (.slice ac cs.length cc)) Y3 := ⟨m1.1, m1.2, cell_of_block hb3 0, cell_of_block hb3 1, cell_of_block hb3 2, cell_of_block hb3 3, cell_of_block hb3 4, cell_of_block hb3 5⟩
        dsimp only at hS0
        rw [er, eb] at hpl
        unfold opO at hb3
        clear hD3 hb3 er eb
        skip
        go_region_held3 (fun W => W.cell? ⟨X2.heap.size, i, none⟩ = some (.pointer (some ⟨r', 0, none⟩)) ∧ W.cell? ⟨X2.heap.size + 1 + 1 + 1, i, none⟩ = some (.pointer (some ⟨b', 0, none⟩)) ∧ W.cell? ⟨wr.heap.size, 0, none⟩ = some (.int .i64 kd) ∧ W.cell? ⟨wr.heap.size, 1, none⟩ = some (.int .i64 on) ∧ W.cell? ⟨wr.heap.size, 2, none⟩ = some (.int .u64 ad) ∧ W.cell? ⟨wr.heap.size, 3, none⟩ = some (.int .u64 wd) ∧ W.cell? ⟨wr.heap.size, 4, none⟩ = some (.int .i64 m) ∧ W.cell? ⟨wr.heap.size, 5, none⟩ = some (.slice ac cs.length cc)) (first | assumption | (exact hS0) | go_keep) ((go_at_call 13; refine (hpl _ (by exact ⟨rfl, rfl, rfl, rfl⟩)).mono ?_; rintro e w4 ⟨rfl, hSS, hH⟩))
        obtain ⟨f4, hD4⟩ := hH.out
        clear hpl hH hSS hS0 m1
        go_wp2_with fail
        go_roundw
        case rel => exact ⟨k + 1, f4, by omega, by go_num, hD4⟩
        case measure => simp [intOf]; omega
    · have hlt' : ¬ (k : Int) < (n : Int) := by omega
      clear ho
      obtain ⟨a0, c0, hv0, _, _⟩ := hD.two.one.rf.row.form
      obtain ⟨a1, c1, hv1, _, _⟩ := hD.two.two.rf.row.form
      obtain ⟨N0, hN0⟩ : ∃ N, (f 0).es.length = N := ⟨_, rfl⟩
      obtain ⟨N1, hN1⟩ : ∃ N, (f 1).es.length = N := ⟨_, rfl⟩
      rw [hD.eq0, hN0] at hv0
      rw [hD.eq1, hN1] at hv1
      have HST : Hid (∀ Z, Keeps (fun _ => False) wr Z → (fun W : World => W.cell? ⟨X2.heap.size, 0, none⟩ = some (.pointer (some ⟨(f 0).r, 0, none⟩)) ∧ W.cell? ⟨X2.heap.size, 1, none⟩ = some (.pointer (some ⟨(f 1).r, 0, none⟩)) ∧ W.cell? ⟨X2.heap.size + 1 + 1 + 1, 0, none⟩ = some (.pointer (some ⟨(f 0).b, 0, none⟩)) ∧ W.cell? ⟨X2.heap.size + 1 + 1 + 1, 1, none⟩ = some (.pointer (some ⟨(f 1).b, 0, none⟩)) ∧ W.cell? ⟨(f 0).b, 1, none⟩ = some (.slice a0 N0 c0) ∧ W.cell? ⟨(f 1).b, 1, none⟩ = some (.slice a1 N1 c1)) Z) := fun Z hk => by
        have hZ := hD.same hk
        have h1 : Z.cell? ⟨(f 0).b, 1, none⟩ = some (f 0).u := cell_of_block hZ.two.one.rf.box 1
        have h2 : Z.cell? ⟨(f 1).b, 1, none⟩ = some (f 1).u := cell_of_block hZ.two.two.rf.box 1
        rw [hv0] at h1
        rw [hv1] at h2
        exact ⟨(hZ.cells (i := 0) (by omega)).1, (hZ.cells (i := 1) (by omega)).1, (hZ.cells (i := 0) (by omega)).2, (hZ.cells (i := 1) (by omega)).2, h1, h2⟩
      have HAll0 : Hid (∀ Z W0, Keeps (fun _ => False) wr Z → Like W0 Z → Calls Tryd.prog 15 #[.pointer (some ⟨(f 0).r, 0, none⟩)] W0 fun e w' => ∃ bx, e = .returned (.func (.func 58) #[] #[.pointer (some ⟨bx, 0, none⟩)]) ∧ (fun W : World => W.cell? ⟨X2.heap.size, 0, none⟩ = some (.pointer (some ⟨(f 0).r, 0, none⟩)) ∧ W.cell? ⟨X2.heap.size, 1, none⟩ = some (.pointer (some ⟨(f 1).r, 0, none⟩)) ∧ W.cell? ⟨X2.heap.size + 1 + 1 + 1, 0, none⟩ = some (.pointer (some ⟨(f 0).b, 0, none⟩)) ∧ W.cell? ⟨X2.heap.size + 1 + 1 + 1, 1, none⟩ = some (.pointer (some ⟨(f 1).b, 0, none⟩)) ∧ W.cell? ⟨(f 0).b, 1, none⟩ = some (.slice a0 N0 c0) ∧ W.cell? ⟨(f 1).b, 1, none⟩ = some (.slice a1 N1 c1)) w' ∧ Hid (w'.heap[bx]? = some (.cells #[.func (.func 42) #[.pointer (some ⟨(f 0).r, 0, none⟩)] #[]] 69 (0, 0)) ∧ Keeps (fun _ => False) wr w')) := fun Z W0 hk hl => by
        have hk0 := hl.keeps hk
        refine (all_reads _ W0).mono ?_
        rintro e w' ⟨rfl, rfl⟩
        exact ⟨_, rfl, HST.out _ (hk0.alloc _), alloc_block _ _, hk0.alloc _⟩
      have HWalk0 : Hid (∀ Z bx W0, Keeps (fun _ => False) wr Z → Z.heap[bx]? = some (.cells #[.func (.func 42) #[.pointer (some ⟨(f 0).r, 0, none⟩)] #[]] 69 (0, 0)) → Like W0 Z → Calls Tryd.prog 14 #[.func (.func 58) #[] #[.pointer (some ⟨bx, 0, none⟩)], .slice a0 N0 c0, .int .i64 0] W0 fun e w' => e = .returned (.bool true) ∧ (fun W : World => W.cell? ⟨X2.heap.size, 0, none⟩ = some (.pointer (some ⟨(f 0).r, 0, none⟩)) ∧ W.cell? ⟨X2.heap.size, 1, none⟩ = some (.pointer (some ⟨(f 1).r, 0, none⟩)) ∧ W.cell? ⟨X2.heap.size + 1 + 1 + 1, 0, none⟩ = some (.pointer (some ⟨(f 0).b, 0, none⟩)) ∧ W.cell? ⟨X2.heap.size + 1 + 1 + 1, 1, none⟩ = some (.pointer (some ⟨(f 1).b, 0, none⟩)) ∧ W.cell? ⟨(f 0).b, 1, none⟩ = some (.slice a0 N0 c0) ∧ W.cell? ⟨(f 1).b, 1, none⟩ = some (.slice a1 N1 c1)) w' ∧ Hid (Keeps (fun _ => False) wr w')) := fun Z bx W0 hk hbx hl => by
        have hk0 := hl.keeps hk
        have hT0 := (hD.same hk0).two
        have hp0 : Pairs W0 (.slice a0 N0 c0) (f 0).es := by rw [← hv0, ← hD.eq0]; exact hT0.one.rf.row.pairs
        refine (lwalk bx 42 _ (f 0).es (by have := hT0.one.rd.fit; have := hT0.one.rd.most20; omega) _ 0 (fun _ k => (f 0).v.ownBlock = some k) (0, 0) W0 (enters_of Tryd.func42 (by kernel_rfl) rfl) (by rw [hl.heap]; exact hbx) hp0 (fun M k _ e => .inl (hT0.one.rd.ents.lt e)) (fun W hkW => handed_list ((hT0.same hkW).one.rd))).mono ?_
        rintro e w' ⟨rfl, h2⟩
        exact ⟨rfl, HST.out _ (hk0.trans h2), hk0.trans h2⟩
      have HAll1 : Hid (∀ Z W0, Keeps (fun _ => False) wr Z → Like W0 Z → Calls Tryd.prog 15 #[.pointer (some ⟨(f 1).r, 0, none⟩)] W0 fun e w' => ∃ bx, e = .returned (.func (.func 58) #[] #[.pointer (some ⟨bx, 0, none⟩)]) ∧ (fun W : World => W.cell? ⟨X2.heap.size, 0, none⟩ = some (.pointer (some ⟨(f 0).r, 0, none⟩)) ∧ W.cell? ⟨X2.heap.size, 1, none⟩ = some (.pointer (some ⟨(f 1).r, 0, none⟩)) ∧ W.cell? ⟨X2.heap.size + 1 + 1 + 1, 0, none⟩ = some (.pointer (some ⟨(f 0).b, 0, none⟩)) ∧ W.cell? ⟨X2.heap.size + 1 + 1 + 1, 1, none⟩ = some (.pointer (some ⟨(f 1).b, 0, none⟩)) ∧ W.cell? ⟨(f 0).b, 1, none⟩ = some (.slice a0 N0 c0) ∧ W.cell? ⟨(f 1).b, 1, none⟩ = some (.slice a1 N1 c1)) w' ∧ Hid (w'.heap[bx]? = some (.cells #[.func (.func 42) #[.pointer (some ⟨(f 1).r, 0, none⟩)] #[]] 69 (0, 0)) ∧ Keeps (fun _ => False) wr w')) := fun Z W0 hk hl => by
        have hk0 := hl.keeps hk
        refine (all_reads _ W0).mono ?_
        rintro e w' ⟨rfl, rfl⟩
        exact ⟨_, rfl, HST.out _ (hk0.alloc _), alloc_block _ _, hk0.alloc _⟩
      have HWalk1 : Hid (∀ Z bx W0, Keeps (fun _ => False) wr Z → Z.heap[bx]? = some (.cells #[.func (.func 42) #[.pointer (some ⟨(f 1).r, 0, none⟩)] #[]] 69 (0, 0)) → Like W0 Z → Calls Tryd.prog 14 #[.func (.func 58) #[] #[.pointer (some ⟨bx, 0, none⟩)], .slice a1 N1 c1, .int .i64 0] W0 fun e w' => e = .returned (.bool true) ∧ (fun W : World => W.cell? ⟨X2.heap.size, 0, none⟩ = some (.pointer (some ⟨(f 0).r, 0, none⟩)) ∧ W.cell? ⟨X2.heap.size, 1, none⟩ = some (.pointer (some ⟨(f 1).r, 0, none⟩)) ∧ W.cell? ⟨X2.heap.size + 1 + 1 + 1, 0, none⟩ = some (.pointer (some ⟨(f 0).b, 0, none⟩)) ∧ W.cell? ⟨X2.heap.size + 1 + 1 + 1, 1, none⟩ = some (.pointer (some ⟨(f 1).b, 0, none⟩)) ∧ W.cell? ⟨(f 0).b, 1, none⟩ = some (.slice a0 N0 c0) ∧ W.cell? ⟨(f 1).b, 1, none⟩ = some (.slice a1 N1 c1)) w' ∧ Hid (Keeps (fun _ => False) wr w')) := fun Z bx W0 hk hbx hl => by
        have hk0 := hl.keeps hk
        have hT0 := (hD.same hk0).two
        have hp0 : Pairs W0 (.slice a1 N1 c1) (f 1).es := by rw [← hv1, ← hD.eq1]; exact hT0.two.rf.row.pairs
        refine (lwalk bx 42 _ (f 1).es (by have := hT0.two.rd.fit; have := hT0.two.rd.most20; omega) _ 0 (fun _ k => (f 1).v.ownBlock = some k) (0, 0) W0 (enters_of Tryd.func42 (by kernel_rfl) rfl) (by rw [hl.heap]; exact hbx) hp0 (fun M k _ e => .inl (hT0.two.rd.ents.lt e)) (fun W hkW => handed_list ((hT0.same hkW).two.rd))).mono ?_
        rintro e w' ⟨rfl, h2⟩
        exact ⟨rfl, HST.out _ (hk0.trans h2), hk0.trans h2⟩
      have HNo : Hid (∀ Z W0, Keeps (fun _ => False) wr Z → Like W0 Z → Calls Tryd.prog 9 #[.pointer none] W0 fun e w' => e = .returned (.bool true) ∧ (fun W : World => W.cell? ⟨X2.heap.size, 0, none⟩ = some (.pointer (some ⟨(f 0).r, 0, none⟩)) ∧ W.cell? ⟨X2.heap.size, 1, none⟩ = some (.pointer (some ⟨(f 1).r, 0, none⟩)) ∧ W.cell? ⟨X2.heap.size + 1 + 1 + 1, 0, none⟩ = some (.pointer (some ⟨(f 0).b, 0, none⟩)) ∧ W.cell? ⟨X2.heap.size + 1 + 1 + 1, 1, none⟩ = some (.pointer (some ⟨(f 1).b, 0, none⟩)) ∧ W.cell? ⟨(f 0).b, 1, none⟩ = some (.slice a0 N0 c0) ∧ W.cell? ⟨(f 1).b, 1, none⟩ = some (.slice a1 N1 c1)) w' ∧ Hid (Keeps (fun _ => False) wr w')) := fun Z W0 hk hl => by
        have hk0 := hl.keeps hk
        refine (noReads_true none W0 (.inl rfl)).mono ?_
        rintro e w' ⟨rfl, h2⟩
        exact ⟨rfl, HST.out _ (hk0.trans h2), hk0.trans h2⟩
      have HNo2 : Hid (∀ Z W0, Keeps (fun _ => False) wr Z → Like W0 (Z.alloc (.cells #[.bool false, .int .i64 0, .slice none 0 0] 31)) → Calls Tryd.prog 9 #[.pointer (some ⟨Z.heap.size, 0, none⟩)] W0 fun e w' => e = .returned (.bool true) ∧ (fun W : World => W.cell? ⟨X2.heap.size, 0, none⟩ = some (.pointer (some ⟨(f 0).r, 0, none⟩)) ∧ W.cell? ⟨X2.heap.size, 1, none⟩ = some (.pointer (some ⟨(f 1).r, 0, none⟩)) ∧ W.cell? ⟨X2.heap.size + 1 + 1 + 1, 0, none⟩ = some (.pointer (some ⟨(f 0).b, 0, none⟩)) ∧ W.cell? ⟨X2.heap.size + 1 + 1 + 1, 1, none⟩ = some (.pointer (some ⟨(f 1).b, 0, none⟩)) ∧ W.cell? ⟨(f 0).b, 1, none⟩ = some (.slice a0 N0 c0) ∧ W.cell? ⟨(f 1).b, 1, none⟩ = some (.slice a1 N1 c1)) w' ∧ Hid (Keeps (fun _ => False) wr w')) := fun Z W0 hk hl => by
        have hk0 := hl.keeps (hk.alloc (.cells #[.bool false, .int .i64 0, .slice none 0 0] 31))
        have hb2 := alloc_block Z (.cells #[.bool false, .int .i64 0, .slice none 0 0] 31)
        refine (noReads_true (some ⟨Z.heap.size, 0, none⟩) W0 (.inr ⟨_, rfl, by rw [hl.heap]; exact hb2⟩)).mono ?_
        rintro e w' ⟨rfl, h2⟩
        exact ⟨rfl, HST.out _ (hk0.trans h2), hk0.trans h2⟩
      have HWk : Hid (∀ Z W0, Keeps (fun _ => False) wr Z → Like W0 Z → Calls Tryd.prog 10 #[] W0 fun e w' => e = .returned (.bool true) ∧ (fun W : World => W.cell? ⟨X2.heap.size, 0, none⟩ = some (.pointer (some ⟨(f 0).r, 0, none⟩)) ∧ W.cell? ⟨X2.heap.size, 1, none⟩ = some (.pointer (some ⟨(f 1).r, 0, none⟩)) ∧ W.cell? ⟨X2.heap.size + 1 + 1 + 1, 0, none⟩ = some (.pointer (some ⟨(f 0).b, 0, none⟩)) ∧ W.cell? ⟨X2.heap.size + 1 + 1 + 1, 1, none⟩ = some (.pointer (some ⟨(f 1).b, 0, none⟩)) ∧ W.cell? ⟨(f 0).b, 1, none⟩ = some (.slice a0 N0 c0) ∧ W.cell? ⟨(f 1).b, 1, none⟩ = some (.slice a1 N1 c1)) w' ∧ Hid (Keeps (fun _ => False) wr w')) := fun Z W0 hk hl => by
        have hk0 := hl.keeps hk
        refine (works_any W0 (hw.keeps (hD.two.kp.trans hk0) (fun f => f))).mono ?_
        rintro e w' ⟨rfl, h2⟩
        exact ⟨rfl, HST.out _ (hk0.trans h2), hk0.trans h2⟩
      have hST0 := HST.out wr (Keeps.refl _ _)
      have HKP : Hid (Keeps (fun _ => False) w wr) := hD.two.kp
      have hNl : N0 ≤ 1048576 := by have := hD.two.one.rd.fit; have := hD.two.one.rd.most20; omega
      have hNm : N1 ≤ 1048576 := by have := hD.two.two.rd.fit; have := hD.two.two.rd.most20; omega
      clear hv0 hv1 hN0 hN1 HST hD
      go_wp2_with fail
      go_region_held3 (fun W : World => W.cell? ⟨X2.heap.size, 0, none⟩ = some (.pointer (some ⟨(f 0).r, 0, none⟩)) ∧ W.cell? ⟨X2.heap.size, 1, none⟩ = some (.pointer (some ⟨(f 1).r, 0, none⟩)) ∧ W.cell? ⟨X2.heap.size + 1 + 1 + 1, 0, none⟩ = some (.pointer (some ⟨(f 0).b, 0, none⟩)) ∧ W.cell? ⟨X2.heap.size + 1 + 1 + 1, 1, none⟩ = some (.pointer (some ⟨(f 1).b, 0, none⟩)) ∧ W.cell? ⟨(f 0).b, 1, none⟩ = some (.slice a0 N0 c0) ∧ W.cell? ⟨(f 1).b, 1, none⟩ = some (.slice a1 N1 c1)) (first | assumption | (exact hST0) | go_keep) ((first
        | (go_at_call 15; refine (HAll1.out _ _ hH2.out (by exact ⟨rfl, rfl, rfl, rfl⟩)).mono ?_; rintro e Z3 ⟨bx1, rfl, hZ3, hH3⟩)
        | (go_at_call 15; refine (HAll0.out wr _ (by exact Keeps.refl _ _) (by exact ⟨rfl, rfl, rfl, rfl⟩)).mono ?_; rintro e Z1 ⟨bx0, rfl, hZ1, hH1⟩)
        | (go_at_call 14; refine (HWalk1.out _ _ _ hH3.out.2 hH3.out.1 (by exact ⟨rfl, rfl, rfl, rfl⟩)).mono ?_; rintro e Z4 ⟨rfl, hZ4, hH4⟩)
        | (go_at_call 14; refine (HWalk0.out _ _ _ hH1.out.2 hH1.out.1 (by exact ⟨rfl, rfl, rfl, rfl⟩)).mono ?_; rintro e Z2 ⟨rfl, hZ2, hH2⟩)
        | (go_at_call 9; refine (HNo2.out _ _ hH5.out (by exact ⟨rfl, rfl, rfl, rfl⟩)).mono ?_; rintro e Z6 ⟨rfl, hZ6, hH6⟩)
        | (go_at_call 9; refine (HNo.out _ _ hH4.out (by exact ⟨rfl, rfl, rfl, rfl⟩)).mono ?_; rintro e Z5 ⟨rfl, hZ5, hH5⟩)
        | (go_at_call 10; refine (HWk.out _ _ hH6.out (by exact ⟨rfl, rfl, rfl, rfl⟩)).mono ?_; rintro e Z7 ⟨rfl, hZ7, hH7⟩)))
      go_wp2_with fail
      go_ret
      exact ⟨rfl, HKP.out.trans hH7.out⟩
end Go.Proofs.YtbgnlenhncbceaaDoor


/-
  LogsReads where no log is made. The statement itself is not proved here.
-/
namespace Go.Proofs.YtbgnlenhncbceaaDoor
open Go.RowKit Go.Shelf
attribute [local go_sem] Oper.semAt_some

set_option maxRecDepth 100000 in
set_option maxHeartbeats 1000000 in
theorem rd_out (most : Int) (hm : most < 0 ∨ 1048576 < most) (a : Option Addr) (n c : Nat) (w : World) (hw : Tz w) :
    Calls Tryd.prog 3 #[.int .i64 most, .slice a n c] w fun e w' => e = .returned (.bool true) ∧ Keeps (fun _ => False) w w' := by
  have hnew := reads_new_no most hm w
  have hno := noReads_true none w (.inl rfl)
  go_enter Tryd.func3, Tryd.ntmps3
  by_cases h0 : most < 0
  all_goals
    first
    | (have hga : decide (most < 0) = false := by simp; omega
       replace hm : 1048576 < most := by omega)
    | clear hm
    go_wp2_with (first
      | (go_at_call 7; refine hnew.mono ?_; rintro e w' ⟨rfl, hw'⟩; replace hw' := hw'.symm; subst hw')
      | (go_at_call 8; refine (num_any _ _).mono ?_; rintro e w' ⟨rfl, hw'⟩; replace hw' := hw'.symm; subst hw'))
    refine hno.mono ?_
    rintro e w1 ⟨rfl, hk1⟩
    clear hno hnew
    have hk2 : Keeps (fun _ => False) w (w1.alloc (.cells #[.bool false, .int .i64 0, .slice none 0 0] 31)) := hk1.alloc _
    have hb2 := alloc_block w1 (.cells #[.bool false, .int .i64 0, .slice none 0 0] 31)
    have hno2 := noReads_true (some ⟨w1.heap.size, 0, none⟩) _ (.inr ⟨_, rfl, hb2⟩)
    go_wp2_with fail
    refine hno2.mono ?_
    rintro e w3 ⟨rfl, hk3⟩
    have hk3' := hk2.trans hk3
    have hwk := works_any w3 (hw.keeps hk3' (fun f => f))
    clear hk1 hk2 hk3 hb2 hno2
    go_wp2_with fail
    refine hwk.mono ?_
    rintro e w4 ⟨rfl, hk4⟩
    have hk4' := hk3'.trans hk4
    go_wp2_with fail
    go_ret
    exact ⟨rfl, hk4'⟩
end Go.Proofs.YtbgnlenhncbceaaDoor


/-
  For every input LogsReads returns true, and leaves what was handed in as it was: the tied card.
-/
namespace Go.Proofs.YtbgnlenhncbceaaDoor.logsReads
open Go.ChangeShapes Go.WideShapes Go.ChangeAt Go.RowKit

set_option maxRecDepth 100000 in
theorem contract (H : Type) (enc : TypeId × Value → H) (W : World) (base : Nat) (args : Array Value) (ds gs : List (DataW H)) (before : List MemPlace)
    (hval : ∀ (j : Nat) t v, Tryd.f3.params[j]? = some t → args[j]? = some v → Value.okWide Tryd.prog W .any base t v)
    (hW : DataW.Whole enc Tryd.prog Tryd.f3.params.toList Rows.logsReadsSpec.vars false W args.toList ds gs before)
    (hsz0 : (DataW.weightsEach Tryd.prog (Tryd.f3.params.toList ++ Rows.logsReadsSpec.plain.varTypes Tryd.prog) (ds ++ gs)).all (· ≤ reachBytes) = true) (hL : laidMetH Tryd.prog Rows.logsReadsRow.laid W) :
    Calls Tryd.prog 3 args W fun e W' => ∃ v, e = .returned v ∧ Rows.logsReadsSpec.post enc Tryd.prog Tryd.f3 false true false false W args v W' := by
  have hsz := hsz0
  have hW' := hW
  obtain ⟨p, q, hA0, hV, rfl, hfz, hnd⟩ := hW
  have hA : DataW.TrodAll enc Tryd.prog W 0 (fun _ => true) true Tryd.f3.params.toList args.toList ds p := hA0
  rw [Tryd.params3] at hA hval hsz
  obtain ⟨v0, vs0, d0, ds0, p0, q0, hargs, rfl, rfl, h0, r0⟩ := trodAll_cons hA
  obtain ⟨v1, vs1, d1, ds1, p1, q1, rfl, rfl, rfl, h1, r1⟩ := trodAll_cons r0
  obtain ⟨rfl, rfl, rfl⟩ := trodAll_nil r1
  obtain rfl : args = #[v0, v1] := by cases args; simp_all
  obtain ⟨rfl, rfl⟩ := trodVars_none hV
  have lt0 : ∀ x ∈ p0, x.block < W.heap.size := by obtain ⟨m, hm⟩ := h0; exact DataW.trod_lt m _ _ _ hm
  have lt1 : ∀ x ∈ p1, x.block < W.heap.size := by obtain ⟨m, hm⟩ := h1; exact DataW.trod_lt m _ _ _ hm
  obtain ⟨most, rfl⟩ := okWide_int Tryd.underlying3 (hval 0 3 v0 rfl rfl)
  have hwt : ∀ N ∈ d1.weights Tryd.prog 22, N ≤ reachBytes := fun N hN => by
    have := List.all_eq_true.1 hsz _ (DataW.weights_mem_each (j := 1) (t := 22) (d := d1) rfl rfl N hN)
    simpa using this
  obtain ⟨a, n, c, rfl, hops, hnb⟩ := open_ops (hval 1 22 v1 rfl rfl) h1 hwt
  clear hA0
  simp only [List.append_nil] at hW'
  have hz := tz_of hL
  have hwalk : Calls Tryd.prog 3 #[.int .i64 most, .slice a n c] W fun e w' => e = .returned (.bool true) ∧ Keeps (fun _ => False) W w' := by
    by_cases hm : most < 0 ∨ 1048576 < most
    · exact rd_out most hm a n c W hz
    · obtain ⟨m, rfl⟩ : ∃ m : Nat, most = (m : Int) := ⟨most.toNat, by omega⟩
      exact rd_in m (by omega) a n c W hz hops hnb
  refine hwalk.mono fun e W' ⟨he, hkp⟩ => ?_
  have bel := hkp.below W.heap.size (Nat.le_refl _) (fun _ f => f.elim)
  subst he
  exact ⟨_, rfl, _, _, _, [], _, [], hW', trodAll_mk1 (shut_bool Tryd.underlying4 _),
    trodAll_cons_mk (Below.trod laidOut (by kernel_rfl) (of_decide_eq_true (by kernel_rfl)) h0 bel lt0) (trodAll_cons_mk (Below.trod laidOut (by kernel_rfl) (of_decide_eq_true (by kernel_rfl)) h1 bel lt1) trodAll_mk0), rfl, bel.frame _, fun h => by cases h⟩

theorem laid_met (os : Os) : laidMet Tryd.prog Rows.logsReadsRow.laid ((laidWorld os).forCall (fun _ _ => 0) ⟨#[], #[.int .i64 0, .slice none 0 0], []⟩).memory :=
  laidMet_of_run' 8 (by kernel_rfl) (by kernel_rfl)
theorem reads (os : Os) {H : Type} (enc : TypeId × Value → H) : ∃ places, DataW.whole enc Tryd.prog ((laidWorld os).forCall (fun _ _ => 0) ⟨#[], #[.int .i64 0, .slice none 0 0], []⟩).memory Tryd.f3.params.toList Rows.logsReadsSpec.vars false #[Value.int .i64 0, Value.slice none 0 0].toList 8 = some ([.lit (.int .i64 0), .nil], [], places) :=
  ⟨[], by kernel_rfl⟩

set_option maxRecDepth 100000 in
theorem lifted (os : Os) (started : os.Started) (H : Type) (enc : TypeId × Value → H) (F : Stop.Interp) :
    ReturnsInHanded {} Tryd.checked os 3 .any ((OpenSpec.ofChange Rows.logsReadsSpec).preRow enc Tryd.prog Tryd.f3 Rows.logsReadsRow.domain false Rows.logsReadsRow.laid) (((OpenSpec.ofChange Rows.logsReadsSpec).at F).post enc Tryd.prog Tryd.f3 false true false false) := by
  obtain ⟨places, hx⟩ := reads os enc
  refine returnsInHanded_of_row (C := Tryd.checked) (s := OpenSpec.ofChange Rows.logsReadsSpec) own started (by kernel_rfl) Tryd.func3
    (witness_row_at (enc := enc) (C := Tryd.checked) false (laidWorld os) #[.int .i64 0, .slice none 0 0] rfl (by kernel_rfl) (by kernel_rfl) (by kernel_rfl)
      (OpenSpec.preRow_of_cond 8 hx (by kernel_rfl) (fun k hk => by cases hk) (by kernel_rfl) (laid_met os))) ?_
  intro W base args ds gs before hval hW _ _ hsz hL _ _
  exact contract H enc W base args ds gs before hval hW hsz hL

theorem said : Rows.LogsReadsSaid :=
  OpenClaim.holds_of_cond 3 Tryd.f3 rfl rfl rfl rfl rfl rfl rfl ⟨rfl, rfl, rfl, rfl, rfl⟩ rfl rfl rfl rfl rfl (by kernel_rfl) Tryd.func3 (by kernel_rfl)
    (of_decide_eq_true (by kernel_rfl)) (by unfold Func.isWrapper; first | (rw [if_pos (by decide +kernel)]; kernel_rfl) | (rw [if_neg (by decide +kernel)]; exact ⟨rfl, rfl⟩))
    (fun os started H enc _ F => by rw [OpenClaim.pre_eq_preRow]; exact lifted os started H enc F)

theorem plain (f : FuncId) (fn : Func) (hf : Tryd.pinned.checked.prog.funcNamed "parley/parleylaw05.LogsReads" = some f) (hfn : Tryd.pinned.checked.prog.funcs[f]? = some fn) :
    false = Tryd.pinned.checked.prog.looks [] ∧ ∀ (j : Nat) t, fn.params[j]? = some t → Tryd.pinned.checked.prog.wantsStandIn t = false := by
  obtain rfl : f = 3 := Option.some.inj ((show Tryd.prog.funcNamed "parley/parleylaw05.LogsReads" = some 3 by kernel_rfl).symm.trans hf) |>.symm
  obtain rfl : fn = Tryd.f3 := (Option.some.inj (Tryd.func3.symm.trans hfn)).symm
  refine ⟨by kernel_rfl, fun j t ht => ?_⟩
  rw [Tryd.params3] at ht
  have hm := Array.mem_of_getElem? ht
  simp at hm
  rcases hm with rfl | rfl
  · exact (show Tryd.prog.wantsStandIn 3 = false by kernel_rfl)
  · exact (show Tryd.prog.wantsStandIn 22 = false by kernel_rfl)

theorem card : Rows.LogsReadsCardSaid :=
  Claim7.holds_tied_plain_at .later [] _ _ _ _ said (fun _ h => by cases h) (by kernel_rfl) (fun _ h => by cases h) logsReads_row_tie rfl ⟨rfl, rfl⟩ (by kernel_rfl) rfl plain (by kernel_rfl)
end Go.Proofs.YtbgnlenhncbceaaDoor.logsReads

namespace Go.Proofs.YtbgnlenhncbceaaDoor
theorem logsReads_holds : Rows.LogsReadsCardSaid := logsReads.card
end Go.Proofs.YtbgnlenhncbceaaDoor
