
/-
  Two read logs and the document's two, as they lie beside one another. No statement of the seat is proved here.
-/
import Derived.Test.YtbgnlenhncbceaaDoorStaleM
import Derived.Test.YtbgnlenhncbceaaDoorLend
namespace Go.Proofs.YtbgnlenhncbceaaDoor
open Go.RowKit Go.Shelf

/-- A read log and the document's: their boxes, what is in them, their lists. -/
structure Side where
  r : Nat
  es : List (Int × Int)
  v : Value
  b : Nat
  ls : List (Int × Int)
  u : Value
/-- Blocks that stay as they are. -/
def Frm : Type := Nat → Option Obj
structure SideAt (Fz : Frm) (w X : World) (most : Nat) (s : Side) : Prop where
  rd : ReadAt X s.r most s.es s.v
  rf : RefAt X s.b most s.ls s.u
  pe : ∀ e, e ∈ s.es → 0 ≤ e.1
  pl : ∀ e, e ∈ s.ls → 0 ≤ e.1
  nr : w.heap.size ≤ s.r
  nb : w.heap.size ≤ s.b
  nv : ∀ g, s.v.ownBlock = some g → w.heap.size ≤ g
  nu : ∀ g, s.u.ownBlock = some g → w.heap.size ≤ g
  vu : ∀ g, s.v.ownBlock = some g → s.u.ownBlock ≠ some g
  z : Fz s.r = none ∧ Fz s.b = none ∧ (∀ g, s.v.ownBlock = some g → Fz g = none) ∧ ∀ g, s.u.ownBlock = some g → Fz g = none
/-- Is there room behind a slice? -/
def Roomy (v : Value) : Prop := ∃ a n c, v = .slice a n c ∧ n < c
structure Two (Fz : Frm) (w X : World) (most : Nat) (s t : Side) : Prop where
  one : SideAt Fz w X most s
  two : SideAt Fz w X most t
  kp : Keeps (fun _ => False) w X
  rr : s.r ≠ t.r
  bb : s.b ≠ t.b
  uu : ∀ g, s.u.ownBlock = some g → t.u.ownBlock ≠ some g
  uv : ∀ g, s.u.ownBlock = some g → t.v.ownBlock ≠ some g
  vu : ∀ g, t.u.ownBlock = some g → s.v.ownBlock ≠ some g
  sh : ∀ g, s.v.ownBlock = some g → t.v.ownBlock = some g → (Roomy s.v → ¬ Roomy t.v ∧ t.es.length ≤ s.es.length) ∧ (Roomy t.v → ¬ Roomy s.v ∧ s.es.length ≤ t.es.length)
  fz : ∀ k o, Fz k = some o → X.heap[k]? = some o

section
variable {Fz : Frm} {w X X' : World} {most : Nat} {s t : Side}
theorem Two.swap (h : Two Fz w X most s t) : Two Fz w X most t s :=
  ⟨h.two, h.one, h.kp, Ne.symm h.rr, Ne.symm h.bb, fun g h1 h2 => h.uu g h2 h1, h.vu, h.uv, fun g h1 h2 => ⟨(h.sh g h2 h1).2, (h.sh g h2 h1).1⟩, h.fz⟩
theorem SideAt.kept {S : Nat → Prop} (h : SideAt Fz w X most s) (k : Keeps S X X') (h1 : ¬ S s.r) (h2 : ¬ S s.b) (h3 : ∀ g, s.v.ownBlock = some g → ¬ S g) (h4 : ∀ g, s.u.ownBlock = some g → ¬ S g) : SideAt Fz w X' most s :=
  ⟨h.rd.kept k h1 h3, h.rf.kept k h2 h4, h.pe, h.pl, h.nr, h.nb, h.nv, h.nu, h.vu, h.z⟩
theorem Two.same (h : Two Fz w X most s t) (k : Keeps (fun _ => False) X X') : Two Fz w X' most s t :=
  ⟨h.one.kept k (fun f => f) (fun f => f) (fun _ _ f => f) (fun _ _ f => f), h.two.kept k (fun f => f) (fun f => f) (fun _ _ f => f) (fun _ _ f => f), h.kp.trans k, h.rr, h.bb, h.uu, h.uv, h.vu, h.sh, fun q o e => k.old (h.fz q o e) (fun f => f)⟩
theorem SideAt.lt (h : SideAt Fz w X most s) : s.r < X.heap.size ∧ s.b < X.heap.size ∧ (∀ g, s.v.ownBlock = some g → g < X.heap.size) ∧ (∀ g, s.u.ownBlock = some g → g < X.heap.size) :=
  ⟨lt_of_block h.rd.box, lt_of_block h.rf.box, fun _ e => h.rd.ents.lt e, fun _ e => h.rf.row.lt e⟩
/-- Boxes and lists are of different kinds. -/
theorem two_kinds (h : SideAt Fz w X most s) (k : SideAt Fz w X most t) : s.r ≠ t.b ∧ (∀ g, t.v.ownBlock = some g → g ≠ s.r ∧ g ≠ s.b) ∧ (∀ g, t.u.ownBlock = some g → g ≠ s.r ∧ g ≠ s.b) := by
  refine ⟨fun e => ?_, fun g hg => ?_, fun g hg => ?_⟩
  · have h1 := h.rd.box
    rw [e] at h1
    exact absurd (kind_ne h1 k.rf.box) (by decide)
  · obtain ⟨c, hc⟩ := k.rd.ents.kind hg
    constructor
    · rintro rfl; exact absurd (kind_ne hc h.rd.box) (by decide)
    · rintro rfl; exact absurd (kind_ne hc h.rf.box) (by decide)
  · obtain ⟨c, hc⟩ := k.rf.row.kind hg
    constructor
    · rintro rfl; exact absurd (kind_ne hc h.rd.box) (by decide)
    · rintro rfl; exact absurd (kind_ne hc h.rf.box) (by decide)

theorem roomy_eq {a : Option Addr} {n c : Nat} : Roomy (.slice a n c) ↔ n < c := by
  constructor
  · rintro ⟨a', n', c', e, h⟩
    injection e with _ e1 e2
    omega
  · intro h
    exact ⟨_, _, _, rfl, h⟩

theorem fz_new (h : Two Fz w X most s t) {g : Nat} (hg : X.heap.size ≤ g) : Fz g = none := by
  cases e : Fz g with
  | none => rfl
  | some o =>
    have := lt_of_block (h.fz g o e)
    omega

/-- Cut of the program's. -/
theorem Two.cut (h : Two Fz w X most s t) {a : Option Addr} {c m : Nat} (hv : s.v = .slice a s.es.length c) (hm : m ≤ s.es.length) (hr : ReadAt X' s.r most (s.es.take m) (.slice a m m)) (k : Keeps (fun k => k = s.r) X X') :
    Two Fz w X' most { s with es := s.es.take m, v := .slice a m m } t := by
  have ho : (Value.slice a m m).ownBlock = s.v.ownBlock := by rw [hv]; cases a <;> rfl
  obtain ⟨k1, k2, k3⟩ := two_kinds h.one h.two
  obtain ⟨k4, k5, k6⟩ := two_kinds h.one h.one
  have hno : ¬ Roomy (.slice a m m) := fun e => by rw [roomy_eq] at e; omega
  refine ⟨⟨hr, h.one.rf.kept k (Ne.symm k4) (fun g hg => (k6 g hg).1), fun e he => h.one.pe e (List.mem_of_mem_take he), h.one.pl, h.one.nr, h.one.nb, fun g hg => h.one.nv g (ho ▸ hg), h.one.nu, fun g hg => h.one.vu g (ho ▸ hg), h.one.z.1, h.one.z.2.1, fun g hg => h.one.z.2.2.1 g (ho ▸ hg), h.one.z.2.2.2⟩,
    h.two.kept k (Ne.symm h.rr) (Ne.symm k1) (fun g hg => (k2 g hg).1) (fun g hg => (k3 g hg).1), h.kp.step k (fun i hi e => by have := h.one.nr; omega), h.rr, h.bb, h.uu, h.uv, fun g hg e => h.vu g hg (ho ▸ e), fun g hg ht => ⟨fun e => (hno e).elim, fun e => ⟨hno, ?_⟩⟩, fun q o e => k.old (h.fz q o e) (fun e' => by rw [e', h.one.z.1] at e; cases e)⟩
  have := ((h.sh g (ho ▸ hg) ht).2 e).2
  simp only [List.length_take]
  omega

/-- Add of the program's. -/
theorem Two.add (h : Two Fz w X most s t) {v' : Value} {e : Int × Int} (he : 0 ≤ e.1) (hr : ReadAt X' s.r most (s.es ++ [e]) v') (hk : AddKeeps s.r s.v v' s.es.length X X') :
    Two Fz w X' most { s with es := s.es ++ [e], v := v' } t := by
  obtain ⟨k1, k2, k3⟩ := two_kinds h.one h.two
  obtain ⟨k4, k5, k6⟩ := two_kinds h.one h.one
  obtain ⟨l1, l2, l3, l4⟩ := h.one.lt
  obtain ⟨m1, m2, m3, m4⟩ := h.two.lt
  have hs := h.kp.size
  have hpe : ∀ x, x ∈ s.es ++ [e] → 0 ≤ x.1 := fun x hx => by
    rcases List.mem_append.1 hx with hx | hx
    · exact h.one.pe x hx
    · rw [List.mem_singleton.1 hx]; exact he
  rcases hk with ⟨g, hg, hgn, k⟩ | ⟨g, c0, hv, hroom, rfl, hsame, k⟩
  · have hov : ∀ q, v'.ownBlock = some q → q = g := fun q e => by rw [hg] at e; injection e with e; exact e.symm
    refine ⟨⟨hr, h.one.rf.kept k (Ne.symm k4) (fun q hq => (k6 q hq).1), hpe, h.one.pl, h.one.nr, h.one.nb, fun q hq => by rw [hov q hq]; omega, h.one.nu, fun q hq hu => by have := hov q hq; have := l4 q hu; omega, h.one.z.1, h.one.z.2.1, fun q hq => fz_new h (by rw [hov q hq]; omega), h.one.z.2.2.2⟩,
      h.two.kept k (Ne.symm h.rr) (Ne.symm k1) (fun q hq => (k2 q hq).1) (fun q hq => (k3 q hq).1), h.kp.step k (fun i hi e => by have := h.one.nr; omega), h.rr, h.bb, h.uu, h.uv, fun q hq e => by have := hov q e; have := m4 q hq; omega, fun q hq ht => by have := hov q hq; have := m3 q ht; omega, fun q o e => k.old (h.fz q o e) (fun e' => by rw [e', h.one.z.1] at e; cases e)⟩
  · have hog : s.v.ownBlock = some g := by rw [hv]; rfl
    have hrs : Roomy s.v := ⟨_, _, _, hv, hroom⟩
    have htr : t.r ≠ s.r ∧ t.r ≠ g := ⟨Ne.symm h.rr, fun e => (k2 g |> fun _ => by
      obtain ⟨q1, q2, q3⟩ := two_kinds h.two h.one
      exact (q2 g hog).1 e.symm)⟩
    have htb : t.b ≠ s.r ∧ t.b ≠ g := ⟨Ne.symm k1, fun e => by
      obtain ⟨q1, q2, q3⟩ := two_kinds h.two h.one
      exact (q2 g hog).2 e.symm⟩
    have hT : ReadAt X' t.r most t.es t.v := by
      by_cases htg : t.v.ownBlock = some g
      · obtain ⟨hnr, hle⟩ := (h.sh g hog htg).1 hrs
        refine ⟨k.old h.two.rd.box (fun e => e.elim htr.1 htr.2), ?_, h.two.rd.fit, h.two.rd.most20⟩
        have ht := h.two.rd.ents
        refine ⟨ht.1, ?_⟩
        rcases ht.2 with q | ⟨g', cap, cur, q1, q2, q3, q4, q5, q6⟩
        · exact .inl q
        · obtain rfl : g' = g := by rw [q1] at htg; simpa [Value.ownBlock] using htg
          have hcap : cap = t.es.length := by
            apply Classical.byContradiction
            intro hc
            exact hnr ⟨_, _, _, q1, by omega⟩
          obtain ⟨cur', hb', hsz⟩ : ∃ cur', X'.heap[g']? = some (.cells cur' 72 (0, 0)) ∧ (s.es.length + 1) * 2 ≤ cur'.size := by
            rcases hr.ents.2 with ⟨e1, _⟩ | ⟨g2, cap2, cur2, e1, e2, e3, e4, e5, e6⟩
            · cases e1
            · injection e1 with e1 e1' e1''
              injection e1 with e1
              injection e1 with e1
              subst e1
              refine ⟨cur2, e2, ?_⟩
              simp only [List.length_append, List.length_cons, List.length_nil, Nat.zero_add] at e3
              omega
          refine .inr ⟨g', cap, cur', q1, hb', q3, q4, by omega, ?_⟩
          rw [← q6]
          apply List.ext_getElem?
          intro j
          rw [List.getElem?_take, List.getElem?_take]
          split
          · rename_i hj
            have := hsame j (by omega)
            rw [cell_of_block hb', cell_of_block q2] at this
            simpa using this
          · rfl
      · exact h.two.rd.kept k (fun e => e.elim htr.1 htr.2) (fun q hq e => by
          rcases e with e | e
          · exact (k2 q hq).1 e
          · exact htg (e ▸ hq))
    refine ⟨⟨hr, h.one.rf.kept k (fun e => e.elim (Ne.symm k4) (fun e => (k5 g hog).2 e.symm)) (fun q hq e => e.elim (k6 q hq).1 (fun e => h.one.vu g hog (e ▸ hq))), hpe, h.one.pl, h.one.nr, h.one.nb, fun q hq => h.one.nv q (by rw [hog]; exact hq), h.one.nu, fun q hq => h.one.vu q (by rw [hog]; exact hq), h.one.z.1, h.one.z.2.1, fun q hq => h.one.z.2.2.1 q (by rw [hog]; exact hq), h.one.z.2.2.2⟩,
      ⟨hT, h.two.rf.kept k (fun e => e.elim htb.1 htb.2) (fun q hq e => e.elim (k3 q hq).1 (fun e => h.vu g (e ▸ hq) hog)), h.two.pe, h.two.pl, h.two.nr, h.two.nb, h.two.nv, h.two.nu, h.two.vu, h.two.z⟩,
      h.kp.step k (fun i hi e => by rcases e with e | e; exact absurd h.one.nr (by omega); exact absurd (h.one.nv g hog) (by omega)), h.rr, h.bb, h.uu, h.uv, fun q hq e => h.vu q hq (by rw [hog]; exact e), fun q hq ht => ?_, fun q o e => k.old (h.fz q o e) (fun e' => by
        rcases e' with e' | e'
        · rw [e', h.one.z.1] at e; cases e
        · rw [e', h.one.z.2.2.1 g hog] at e; cases e)⟩
    have hq' : s.v.ownBlock = some q := by rw [hog]; exact hq
    obtain ⟨h1, h2⟩ := h.sh q hq' ht
    refine ⟨fun _ => ⟨(h1 hrs).1, ?_⟩, fun e => ((h2 e).1 hrs).elim⟩
    have := (h1 hrs).2
    simp only [List.length_append]
    omega

/-- A call of the document's. -/
theorem Two.ref (h : Two Fz w X most s t) {L : List (Int × Int)} {u' : Value} (hL : ∀ e, e ∈ L → 0 ≤ e.1) (hr : RefAt X' s.b most L u') (k : Keeps (fun k => k = s.b ∨ s.u.ownBlock = some k) X X') (hu : ∀ g, u'.ownBlock = some g → s.u.ownBlock = some g ∨ X.heap.size ≤ g) :
    Two Fz w X' most { s with ls := L, u := u' } t := by
  obtain ⟨k1, k2, k3⟩ := two_kinds h.one h.two
  obtain ⟨q1, q2, q3⟩ := two_kinds h.two h.one
  obtain ⟨k4, k5, k6⟩ := two_kinds h.one h.one
  obtain ⟨l1, l2, l3, l4⟩ := h.one.lt
  obtain ⟨m1, m2, m3, m4⟩ := h.two.lt
  have hs := h.kp.size
  refine ⟨⟨h.one.rd.kept k (fun e => e.elim k4 (fun e => (k6 _ e).1 rfl)) (fun g hg e => e.elim (k5 g hg).2 (h.one.vu g hg)), hr, h.one.pe, hL, h.one.nr, h.one.nb, h.one.nv, fun g hg => (hu g hg).elim (h.one.nu g) (fun e => by omega), fun g hg e => (hu g e).elim (h.one.vu g hg) (fun e => by have := l3 g hg; omega), h.one.z.1, h.one.z.2.1, h.one.z.2.2.1, fun g hg => (hu g hg).elim (h.one.z.2.2.2 g) (fun e => fz_new h e)⟩,
    h.two.kept k (fun e => e.elim q1 (fun e => (q3 _ e).1 rfl)) (fun e => e.elim (Ne.symm h.bb) (fun e => (q3 _ e).2 rfl)) (fun g hg e => e.elim (k2 g hg).2 (fun e => h.uv g e hg)) (fun g hg e => e.elim (k3 g hg).2 (fun e => h.uu g e hg)),
    h.kp.step k (fun i hi e => by rcases e with e | e; exact absurd h.one.nb (by omega); exact absurd (h.one.nu i e) (by omega)), h.rr, h.bb, fun g hg => (hu g hg).elim (h.uu g) (fun e e2 => by have := m4 g e2; omega), fun g hg => (hu g hg).elim (h.uv g) (fun e e2 => by have := m3 g e2; omega), fun g hg e => h.vu g hg e, h.sh, fun q o e => k.old (h.fz q o e) (fun e' => by
      rcases e' with e' | e'
      · rw [e', h.one.z.2.1] at e; cases e
      · rw [h.one.z.2.2.2 q e'] at e; cases e)⟩

/-- The blocks that stayed are written over. -/
theorem Two.store {Fy : Frm} (h : Two Fz w X most s t) (k : Keeps (fun q => Fz q ≠ none) X X') (hw : ∀ q, Fz q ≠ none → w.heap.size ≤ q) (hy : ∀ q o, Fy q = some o → X'.heap[q]? = some o) (hn : ∀ q, Fz q = none → Fy q = none) : Two Fy w X' most s t := by
  have side : ∀ r : Side, SideAt Fz w X most r → SideAt Fy w X' most r := fun r hr => by
    have hz := hr.z
    have hk := hr.kept k (fun e => e hz.1) (fun e => e hz.2.1) (fun g hg e => e (hz.2.2.1 g hg)) (fun g hg e => e (hz.2.2.2 g hg))
    exact ⟨hk.rd, hk.rf, hk.pe, hk.pl, hk.nr, hk.nb, hk.nv, hk.nu, hk.vu, hn _ hz.1, hn _ hz.2.1, fun g hg => hn _ (hz.2.2.1 g hg), fun g hg => hn _ (hz.2.2.2 g hg)⟩
  exact ⟨side s h.one, side t h.two, h.kp.step k (fun i hi e => by have := hw i e; omega), h.rr, h.bb, h.uu, h.uv, h.vu, h.sh, hy⟩
end
end Go.Proofs.YtbgnlenhncbceaaDoor
