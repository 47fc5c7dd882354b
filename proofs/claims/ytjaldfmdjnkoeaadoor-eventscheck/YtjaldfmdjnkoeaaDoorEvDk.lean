
/- Three rows that grow beside one another; a walk of the law's left. No statement of the seat is proved here. -/
import Derived.Test.YtjaldfmdjnkoeaaDoorEvDg
import Derived.Test.YtjaldfmdjnkoeaaDoorEvTd
import Derived.Test.YtjaldfmdjnkoeaaDoorEvCb
namespace Go.Proofs.YtjaldfmdjnkoeaaDoor
open Go.RowKit Go.Shelf

structure Tri (B : Nat) (w : World) (va vc ve : Value) (A : List Ty) (C : List Int) (E : List Ev) : Prop where
  a : OwnR Ty.cl 7 42 w B va A
  c : OwnR Ci 1 3 w B vc C
  e : OwnR Ev.cl 6 44 w B ve E
  ac : ∀ g, va.ownBlock = some g → vc.ownBlock ≠ some g
  ae : ∀ g, va.ownBlock = some g → ve.ownBlock ≠ some g
  ce : ∀ g, vc.ownBlock = some g → ve.ownBlock ≠ some g
theorem Tri.growA {B : Nat} {w w' : World} {va va' vc ve : Value} {A A' : List Ty} {C : List Int} {E : List Ev} (h : Tri B w va vc ve A C E) (gr : Grew w w' va va') (o : OwnR Ty.cl 7 42 w' B va' A') : Tri B w' va' vc ve A' C E :=
  ⟨o, h.c.keeps gr.keeps (fun g hg q => h.ac g q hg), h.e.keeps gr.keeps (fun g hg q => h.ae g q hg), fun g hg q => by
    rcases gr.own with r | r
    · exact h.ac g (r ▸ hg) q
    · have := r g hg; have := (own_block h.c.own q).1; omega, fun g hg q => by
    rcases gr.own with r | r
    · exact h.ae g (r ▸ hg) q
    · have := r g hg; have := (own_block h.e.own q).1; omega, h.ce⟩
theorem Tri.growC {B : Nat} {w w' : World} {va vc vc' ve : Value} {A : List Ty} {C C' : List Int} {E : List Ev} (h : Tri B w va vc ve A C E) (gr : Grew w w' vc vc') (o : OwnR Ci 1 3 w' B vc' C') : Tri B w' va vc' ve A C' E :=
  ⟨h.a.keeps gr.keeps (fun g hg q => h.ac g hg q), o, h.e.keeps gr.keeps (fun g hg q => h.ce g q hg), fun g hg q => by
    rcases gr.own with r | r
    · exact h.ac g hg (r ▸ q)
    · have := r g q; have := (own_block h.a.own hg).1; omega, h.ae, fun g hg q => by
    rcases gr.own with r | r
    · exact h.ce g (r ▸ hg) q
    · have := r g hg; have := (own_block h.e.own q).1; omega⟩
theorem Tri.growE {B : Nat} {w w' : World} {va vc ve ve' : Value} {A : List Ty} {C : List Int} {E E' : List Ev} (h : Tri B w va vc ve A C E) (gr : Grew w w' ve ve') (o : OwnR Ev.cl 6 44 w' B ve' E') : Tri B w' va vc ve' A C E' :=
  ⟨h.a.keeps gr.keeps (fun g hg q => h.ae g hg q), h.c.keeps gr.keeps (fun g hg q => h.ce g hg q), o, h.ac, fun g hg q => by
    rcases gr.own with r | r
    · exact h.ae g hg (r ▸ q)
    · have := r g q; have := (own_block h.a.own hg).1; omega, fun g hg q => by
    rcases gr.own with r | r
    · exact h.ce g hg (r ▸ q)
    · have := r g q; have := (own_block h.c.own hg).1; omega⟩
theorem Grew.cell {w : World} {g n cap o : Nat} {x : Value} : Grew w (w.setCell ⟨g, o, none⟩ x) (.slice (some ⟨g, 0, none⟩) n cap) (.slice (some ⟨g, 0, none⟩) n cap) :=
  ⟨Keeps.setCell (S := fun q => (Value.slice (some ⟨g, 0, none⟩) n cap).ownBlock = some q) (p := ⟨g, o, none⟩) (Keeps.refl _ w) (.inr rfl) x, .inl rfl⟩
/-- The three rows, none of them in a block of the others, and all else as it was. -/
structure Sta (Pr : Nat → Prop) (B Z : Nat) (W w : World) (va vc ve : Value) (A : List Ty) (C : List Int) (E : List Ev) : Prop where
  tri : Tri B w va vc ve A C E
  na : ∀ g, va.ownBlock = some g → ¬ Pr g
  nc : ∀ g, vc.ownBlock = some g → ¬ Pr g
  ne : ∀ g, ve.ownBlock = some g → ¬ Pr g
  keeps : Keeps (fun q => ¬ Pr q ∧ B ≤ q) W w
  low : ∀ g, Pr g → g < Z
  Zw : Z ≤ w.heap.size
theorem Sta.growA {Pr : Nat → Prop} {B Z : Nat} {W w w' : World} {va va' vc ve : Value} {A A' : List Ty} {C : List Int} {E : List Ev} (h : Sta Pr B Z W w va vc ve A C E) (gr : Grew w w' va va') (o : OwnR Ty.cl 7 42 w' B va' A') : Sta Pr B Z W w' va' vc ve A' C E :=
  ⟨h.tri.growA gr o, fun g hg q => by
    rcases gr.own with r | r
    · exact h.na g (r ▸ hg) q
    · have := r g hg; have := h.low g q; have := h.Zw; omega, h.nc, h.ne, h.keeps.trans (gr.keeps.mono (fun q _ hq => ⟨h.na q hq, (own_block h.tri.a.own hq).2⟩)), h.low, Nat.le_trans h.Zw gr.keeps.size⟩
theorem Sta.growC {Pr : Nat → Prop} {B Z : Nat} {W w w' : World} {va vc vc' ve : Value} {A : List Ty} {C C' : List Int} {E : List Ev} (h : Sta Pr B Z W w va vc ve A C E) (gr : Grew w w' vc vc') (o : OwnR Ci 1 3 w' B vc' C') : Sta Pr B Z W w' va vc' ve A C' E :=
  ⟨h.tri.growC gr o, h.na, fun g hg q => by
    rcases gr.own with r | r
    · exact h.nc g (r ▸ hg) q
    · have := r g hg; have := h.low g q; have := h.Zw; omega, h.ne, h.keeps.trans (gr.keeps.mono (fun q _ hq => ⟨h.nc q hq, (own_block h.tri.c.own hq).2⟩)), h.low, Nat.le_trans h.Zw gr.keeps.size⟩
theorem Sta.growE {Pr : Nat → Prop} {B Z : Nat} {W w w' : World} {va vc ve ve' : Value} {A : List Ty} {C : List Int} {E E' : List Ev} (h : Sta Pr B Z W w va vc ve A C E) (gr : Grew w w' ve ve') (o : OwnR Ev.cl 6 44 w' B ve' E') : Sta Pr B Z W w' va vc ve' A C E' :=
  ⟨h.tri.growE gr o, h.na, h.nc, fun g hg q => by
    rcases gr.own with r | r
    · exact h.ne g (r ▸ hg) q
    · have := r g hg; have := h.low g q; have := h.Zw; omega, h.keeps.trans (gr.keeps.mono (fun q _ hq => ⟨h.ne q hq, (own_block h.tri.e.own hq).2⟩)), h.low, Nat.le_trans h.Zw gr.keeps.size⟩
set_option maxRecDepth 100000 in
set_option maxHeartbeats 4000000 in
theorem left_any (v : Value) (L : List Ev) (b : Option Addr) (cap : Nat) (hc : L.length + 1 ≤ cap) (w : World) (hm : ElsAt Ev.cl 6 w (.slice b (L.length + 1) cap) (L ++ [mrk])) (hv : ElsAt Ev.cl 6 w v L) (hL : L.length ≤ 4611686018427) :
    Calls Tryd.prog 23 #[.slice b L.length cap, v] w fun ex w' => ex = .returned (.bool true) ∧ Keeps (fun _ => False) w w' := by
  have h5 := hm.take L.length (by simp)
  rw [List.take_left' rfl] at h5
  have SM := rsame_any (.slice b L.length cap) v L (by omega) w h5 hv
  have HC : Hid (∀ X, Keeps (fun _ => False) w X → ∃ g off, b = some ⟨g, off, none⟩ ∧ X.cell? ⟨g, off + L.length * 6, none⟩ = some (.int .i64 (-7))) := fun X k => by
    obtain ⟨g, off, hb, q⟩ := (hm.keeps ev_ne k).at L.length (by simp)
    refine ⟨g, off, hb, ?_⟩
    have := q 0 (.int .i64 (-7)) (by rw [List.getElem_append_right (Nat.le_refl _)]; simp [mrk])
    simpa using this
  obtain ⟨a, cp, rfl, _⟩ := hv.shape
  have hw1 : IntKind.i64.wrap ((L.length : Int) + 1) = (L.length : Int) + 1 := by rw [IntKind.wrap_i64]; omega
  have l1 : (0 : Int) ≤ (L.length : Int) + 1 := by omega
  have l2 : (L.length : Int) + 1 ≤ (cap : Int) := by omega
  have l3 : ((L.length : Int) + 1).toNat = L.length + 1 := by omega
  have l4 : (L.length : Int) < ((L.length + 1 : Nat) : Int) := by omega
  have l5 : (L.length : Int) < (L.length : Int) + 1 := by omega
  clear hm hv h5
  go_enter Tryd.func23, Tryd.ntmps23
  go_wp2_with fail
  refine SM.mono ?_
  rintro ex w1 ⟨rfl, k1⟩
  obtain ⟨g, off, rfl, c⟩ := HC.out w1 k1
  go_wp2_with fail
  go_ret
  exact ⟨rfl, k1⟩
end Go.Proofs.YtjaldfmdjnkoeaaDoor
