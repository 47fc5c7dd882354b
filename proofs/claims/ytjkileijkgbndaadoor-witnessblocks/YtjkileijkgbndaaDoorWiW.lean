
/- WitnessBlocks: the law's walk (package parleylaw15). No statement of the seat is proved here. -/
import Derived.Test.YtjkileijkgbndaaDoorWiUV
import Derived.Deep.QuietTactic
import Derived.BigQuiet
namespace Go.Proofs.YtjkileijkgbndaaDoor
open Go.RowKit Go.Shelf

set_option maxRecDepth 100000 in
set_option maxHeartbeats 2000000 in
theorem longW_any (v : Value) (L : List Ev) (w : World) (hv : EvsAt w v L) : Calls Tryd.prog 4 #[v] w fun ex w' => ex = .returned (.bool (decide (600 < L.length))) ∧ w' = w := by
  obtain ⟨a, cap, rfl, hcap⟩ := hv.els.shape
  clear hv
  by_cases h : 600 < L.length
  · have h' : (L.length : Int) > 600 := by omega
    go_enter Tryd.func4, Tryd.ntmps4
    go_wp2
    go_ret
    exact ⟨by simp [h], rfl⟩
  · have h' : ¬ (L.length : Int) > 600 := by omega
    go_enter Tryd.func4, Tryd.ntmps4
    go_wp2
    go_ret
    exact ⟨by simp, rfl⟩
/-- What stands behind the program's calls. -/
structure Lw (w w4 : World) (L : List Ev) (lv mv ov pv wv qv : Value) (X Y Z : List Bx) (B0 B1 C0 C1 : Nat) (wX : World) : Prop where
  b : w.heap.size ≤ B0 ∧ B0 ≤ B1 ∧ B1 ≤ C0 ∧ C0 ≤ C1
  k4 : Keeps (fun _ => False) w w4
  c4 : w4.heap.size = C0
  k : Keeps (fun _ => False) w4 wX
  l : Bls wX B0 lv X ∧ X.map (·.p) = partsL L
  lb : ∀ q, (lv.ownBlock = some q ∨ q ∈ ows X) → q < B1
  m : Bls wX B1 mv Y ∧ Y.map (·.p) = partsL L
  mb : ∀ q, (mv.ownBlock = some q ∨ q ∈ ows Y) → q < C0
  o : InR wX C0 ov (natI (ordK (partsL L) (partsL L).length))
  ob : ∀ q, ov.ownBlock = some q → q < C1
  p : InR wX C1 pv (natI (ordK (partsL L) (partsL L).length))
  wt : Bls wX C1 wv Z ∧ Z.map (·.p) = partsL L
  od : InR wX C1 qv (natI (ordK (partsL L) (partsL L).length))
theorem Lw.keeps {w w4 wX w' : World} {L : List Ev} {lv mv ov pv wv qv : Value} {X Y Z : List Bx} {B0 B1 C0 C1 : Nat} (h : Lw w w4 L lv mv ov pv wv qv X Y Z B0 B1 C0 C1 wX) (k : Keeps (fun _ => False) wX w') : Lw w w4 L lv mv ov pv wv qv X Y Z B0 B1 C0 C1 w' :=
  ⟨h.b, h.k4, h.c4, h.k.trans k, ⟨h.l.1.keeps k (fun _ _ _ f => f), h.l.2⟩, h.lb, ⟨h.m.1.keeps k (fun _ _ _ f => f), h.m.2⟩, h.mb, h.o.keeps k (fun _ _ f => f), h.ob, h.p.keeps k (fun _ _ f => f), ⟨h.wt.1.keeps k (fun _ _ _ f => f), h.wt.2⟩, h.od.keeps k (fun _ _ f => f)⟩
end Go.Proofs.YtjkileijkgbndaaDoor
