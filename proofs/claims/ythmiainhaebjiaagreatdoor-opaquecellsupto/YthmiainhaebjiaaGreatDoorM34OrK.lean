/-
  No statement of the seat is proved here. (Several texts in one: OrK.)
-/
import Derived.Test.YthmiainhaebjiaaGreatDoorM28OrI
import Derived.Test.YthmiainhaebjiaaGreatDoorM30OpW
import Derived.Test.YthmiainhaebjiaaGreatDoorM24OpU
import Derived.Test.YthmiainhaebjiaaGreatDoorM31OpY
import Derived.Test.YthmiainhaebjiaaGreatDoorM33OqL

/- The law OpaqueMeans (layer 16). No statement of the seat is proved here. -/
namespace Go.Proofs.YthmiainhaebjiaaGreatDoor
open Go.RowKit Go.Shelf

/-- What the calls answer, where nothing is wrong. -/
structure MeC (F : List Int) (L : List Ev) (W : List Pt) (G : List Sg) (vF v : Value) (X : World) : Prop where
  gv : Gv X ∧ 2 ≤ X.heap.size
  ws : WsAt X vF F
  si : Calls Tryz.prog 17 #[vF, v] X fun ex w' => ∃ sv, ex = .returned (.tuple #[sv, .agg #[.int .i64 (-1), .int .i64 0]]) ∧ SR w' X.heap.size sv G ∧ Keeps (fun _ => False) X w'
  nv : Calls Tryz.prog 10 #[vF, v] X fun ex w' => ∃ (sv : Value) (N Ys : List (Int × Int)), ex = .returned (.tuple #[sv, .agg #[.int .i64 (-1), .int .i64 0]]) ∧ NevOf F W (partsL L) N Ys ∧ OwnR clC 2 28 w' X.heap.size sv (ddP Ys Ys.length) ∧ Keeps (fun _ => False) X w'
  ck : Calls Tryz.prog 19 #[vF, v] X fun ex w' => ex = .returned (.tuple #[.int .i64 (idxF atN G 0), .agg #[.int .i64 (-1), .int .i64 0]]) ∧ Keeps (fun _ => False) X w'
  bh : Calls Tryz.prog 6 #[vF, v, .int .i64 0] X fun ex w' => ∃ u, ex = .returned (.tuple #[u, .agg #[.int .i64 (-1), .int .i64 0]]) ∧ WR w' X.heap.size u F ∧ Keeps (fun _ => False) X w'
  rd : ∀ k (h1 : k < (triesL L).length) (h2 : k < (partsL L).length), Calls Tryz.prog 20 #[v, .agg (Ty.cl ((triesL L)[k])).toArray] X fun ex w' => ∃ u, ex = .returned u ∧ CR w' X.heap.size u ((partsL L)[k]).rs ∧ Keeps (fun _ => False) X w'
  tg : ∀ k (h2 : k < (partsL L).length) vs, ElsAt clC 2 X vs ((partsL L)[k]).rs → Calls Tryz.prog 8 #[vF, v, vs] X fun ex w' => ∃ u, ex = .returned (.tuple #[u, .agg #[.int .i64 (-1), .int .i64 0]]) ∧ NR w' X.heap.size u (togL F W 0 W.length ((partsL L)[k]).rs) ∧ Keeps (fun _ => False) X w'
/-- What is known of the sights. -/
structure MeP (F : List Int) (L : List Ev) (W : List Pt) (G : List Sg) : Prop where
  gl : G.length = (triesL L).length
  pl : (triesL L).length = (partsL L).length
  g6 : G.length ≤ 1050000
  f6 : F.length ≤ 65536
  w6 : W.length ≤ 1050000
  at_ : ∀ k (h0 : k < G.length) (h1 : k < (triesL L).length) (h2 : k < (partsL L).length), (G[k]).t = (triesL L)[k] ∧ SgF F W ((partsL L)[k]).rs (G[k]) ∧ ((partsL L)[k]).rs.length ≤ 1050000
  nev : ∀ N Ys, NevOf F W (partsL L) N Ys → 0 < (ddP Ys Ys.length).length → 0 ≤ idxF atN G 0
end Go.Proofs.YthmiainhaebjiaaGreatDoor
