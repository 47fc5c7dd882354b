
/- Pure (layer 24): the calls of rank, by gets and puts. No statement of the seat is proved here. -/
import Derived.Test.YtalopkllldnipaaRkA
import Derived.Test.YtalopkllldnipaaReals
namespace Go.Proofs.Ytalopkllldnipaa
open Go.RowKit

/-- One call, and then another one, if it went well. -/
def bnd {α β : Type} (F : Wd → (α × Int) × Wd) (G : α → Wd → (β × Int) × Wd) (d : β) : Wd → (β × Int) × Wd := fun s => if (F s).1.2 ≠ 0 then ((d, (F s).1.2), (F s).2) else G (F s).1.1 (F s).2
def rtn {α : Type} (x : α) : Wd → (α × Int) × Wd := fun s => ((x, 0), s)
def err {α : Type} (d : α) (e : Int) : Wd → (α × Int) × Wd := fun s => ((d, e), s)
def putU (a x : Int) : Wd → (Unit × Int) × Wd := fun s => (((), (s.put a x).1), (s.put a x).2)
def giveU (r a n : Int) : Wd → (Unit × Int) × Wd := fun s => (((), (s.give r a n).1), (s.give r a n).2)
theorem bnd_ok {α β : Type} {F : Wd → (α × Int) × Wd} {G : α → Wd → (β × Int) × Wd} {d : β} {s s1 : Wd} {x : α} (h : F s = ((x, 0), s1)) : bnd F G d s = G x s1 := by unfold bnd; rw [h]; exact if_neg (fun q => q rfl)
theorem bnd_no {α β : Type} {F : Wd → (α × Int) × Wd} {G : α → Wd → (β × Int) × Wd} {d : β} {s s1 : Wd} {x : α} {e : Int} (h : F s = ((x, e), s1)) (he : e ≠ 0) : bnd F G d s = ((d, e), s1) := by unfold bnd; rw [h]; exact if_pos he

/-- get: so many cells from one on. -/
def getK (a : Int) (s : Wd) : Nat → (List Int × Int) × Wd
  | 0 => (([], 0), s)
  | k + 1 => if (getK a s k).1.2 ≠ 0 then getK a s k
    else if ((getK a s k).2.get (uw (a + k))).1.2 ≠ 0 then (([], ((getK a s k).2.get (uw (a + k))).1.2), ((getK a s k).2.get (uw (a + k))).2)
    else (((getK a s k).1.1 ++ [((getK a s k).2.get (uw (a + k))).1.1], 0), ((getK a s k).2.get (uw (a + k))).2)
/-- put: so many of these words, from one cell on. -/
def putK (a : Int) (l : List Int) (s : Wd) : Nat → Int × Wd
  | 0 => (0, s)
  | k + 1 => if (putK a l s k).1 ≠ 0 then putK a l s k else (putK a l s k).2.put (uw (a + k)) (oat l k)
theorem getK_stop (a : Int) (s : Wd) (k : Nat) (h : (getK a s k).1.2 ≠ 0) : ∀ j, getK a s (k + j) = getK a s k
  | 0 => rfl
  | j + 1 => by
    have ih := getK_stop a s k h j
    show (if (getK a s (k + j)).1.2 ≠ 0 then getK a s (k + j) else _) = _
    rw [ih, if_pos h]
theorem putK_stop (a : Int) (l : List Int) (s : Wd) (k : Nat) (h : (putK a l s k).1 ≠ 0) : ∀ j, putK a l s (k + j) = putK a l s k
  | 0 => rfl
  | j + 1 => by
    have ih := putK_stop a l s k h j
    show (if (putK a l s (k + j)).1 ≠ 0 then putK a l s (k + j) else _) = _
    rw [ih, if_pos h]
def Wd.gets (s : Wd) (a : Int) (n : Nat) : (List Int × Int) × Wd := getK a s n
def Wd.puts (s : Wd) (a : Int) (l : List Int) : Int × Wd := putK a l s l.length
def getsF (a : Int) (n : Nat) : Wd → (List Int × Int) × Wd := fun s => s.gets a n
def putsU (a : Int) (l : List Int) : Wd → (Unit × Int) × Wd := fun s => (((), (s.puts a l).1), (s.puts a l).2)

/-- Those of these words that are others than they were, from one cell on. -/
def chgK (a : Int) (o l : List Int) (s : Wd) : Nat → Int × Wd
  | 0 => (0, s)
  | k + 1 => if (chgK a o l s k).1 ≠ 0 then chgK a o l s k else if oat l k = oat o k then chgK a o l s k else (chgK a o l s k).2.put (uw (a + k)) (oat l k)
theorem chgK_stop (a : Int) (o l : List Int) (s : Wd) (k : Nat) (h : (chgK a o l s k).1 ≠ 0) : ∀ j, chgK a o l s (k + j) = chgK a o l s k
  | 0 => rfl
  | j + 1 => by
    have ih := chgK_stop a o l s k h j
    show (if (chgK a o l s (k + j)).1 ≠ 0 then chgK a o l s (k + j) else _) = _
    rw [ih, if_pos h]
def Wd.chg (s : Wd) (a : Int) (o l : List Int) : Int × Wd := chgK a o l s l.length
def chgU (a : Int) (o l : List Int) : Wd → (Unit × Int) × Wd := fun s => (((), (s.chg a o l).1), (s.chg a o l).2)

/-- A node as it was got, or is to be: its address, its cells, and whether it is the one that lies nowhere yet. -/
structure Tr where
  at_ : Int
  c : List Int
  f : Bool
def nodeA (x : Int) : Int := uw (x - 1)
/-- The one that lay nowhere lies at n now. -/
def Tr.res (n : Int) (t : Tr) : Tr := if t.f = true then { t with at_ := n } else t
def lef (k x : Int) : Tr := ⟨0, [k, x, 0, 0, 1], true⟩
def toT : Option Tr → Int
  | none => 0
  | some t => uw (t.at_ + 1)
def rkT : Option Tr → Int
  | none => 0
  | some t => oat t.c 4
/-- Is an entry ahead of another one? -/
def befE (x y : Int × Int) : Prop := x.1 < y.1 ∨ (x.1 = y.1 ∧ x.2 < y.2)
instance decBef (x y : Int × Int) : Decidable (befE x y) := by unfold befE; infer_instance
def Tr.ent (t : Tr) : Int × Int := (oat t.c 0, oat t.c 1)
def treF (x : Int) : Wd → (Option Tr × Int) × Wd := if x = 0 then rtn none else bnd (getsF (nodeA x) 5) (fun l => rtn (some ⟨nodeA x, l, false⟩)) none
def braF (x : Int) : Wd → ((Int × Int) × Int) × Wd := if x = 0 then rtn (0, 0) else bnd (fun s => s.get (uw (nodeA x + 4))) (fun r => rtn (x, r)) (0, 0)
/-- A node's cells with these children. -/
def newC (t : Tr) (l r : Int × Int) : List Int := if l.2 < r.2 then [oat t.c 0, oat t.c 1, r.1, l.1, uw (l.2 + 1)] else [oat t.c 0, oat t.c 1, l.1, r.1, uw (r.2 + 1)]
def binF (t : Tr) (l r : Int × Int) : Wd → (Tr × Int) × Wd := bnd (chgU t.at_ t.c (newC t l r)) (fun _ => rtn { t with c := newC t l r }) t
/-- Two trees put together, with so many nodes to the right at most; T is what is done at the turn, and where it laid what lay nowhere. -/
def uni (T : Wd → (Int × Int) × Wd) : Nat → Option Tr → Option Tr → Wd → ((Option Tr × Int) × Int) × Wd
  | _, none, b => bnd T (fun n => rtn (b.map (Tr.res n), n)) (none, 0)
  | _, some a, none => bnd T (fun n => rtn (some (a.res n), n)) (none, 0)
  | 0, some _, some _ => err (none, 0) 340
  | k + 1, some a, some b =>
    bnd (braF (oat (if befE b.ent a.ent then b else a).c 2)) (fun l =>
      bnd (treF (oat (if befE b.ent a.ent then b else a).c 3)) (fun r =>
        bnd (uni T k r (some (if befE b.ent a.ent then a else b))) (fun p =>
          bnd (binF ((if befE b.ent a.ent then b else a).res p.2) l (toT p.1, rkT p.1)) (fun t => rtn (some t, p.2)) (none, 0)) (none, 0)) (none, 0)) (none, 0)
def turn0 : Wd → (Int × Int) × Wd := rtn 0
def layF (r : Int) (l : List Int) : Wd → (Int × Int) × Wd := bnd (fun s => s.take r 5) (fun n => bnd (putsU n l) (fun _ => rtn n) 0) 0
def mldF (a b : Int) : Wd → (Int × Int) × Wd := if a = 0 then rtn b else if b = 0 then rtn a else
  bnd (treF a) (fun x => bnd (treF b) (fun y => bnd (uni turn0 128 x y) (fun p => rtn (toT p.1)) 0) 0) 0
/-- A heap's own cells. -/
def hepF (h : Int) : Wd → ((Int × Int) × Int) × Wd := bnd (getsF h 2) (fun l => if decide (oat l 0 = 0) ≠ decide (oat l 1 = 0) then err (0, 0) 340 else rtn (oat l 0, oat l 1)) (0, 0)
def becU (h : Int) (had : Int × Int) (n r : Int) : Wd → (Unit × Int) × Wd := chgU h [had.1, had.2] [n, r]
/-- The node to which a word leads, the found ones being F. -/
def folF (n : Int) (p : Option Tr) (x : Int) (F : List Tr) : Wd → (Option Tr × Int) × Wd :=
  if x = 0 then rtn none else if F.any (fun t => decide (uw (t.at_ + 1) = x)) = true ∨ (F.length : Int) = n then err none 340 else
  bnd (treF x) (fun q => match q with
    | none => err none 340
    | some t => if reK (oat t.c 0) = true ∧ (∀ u, p = some u → ¬ befE t.ent u.ent) then rtn (some t) else err none 340) none
def chiF (n : Int) (t : Tr) (F : List Tr) : Wd → (List Tr × Int) × Wd :=
  bnd (folF n (some t) (oat t.c 2) F) (fun l => bnd (folF n (some t) (oat t.c 3) (F ++ l.toList)) (fun r =>
    if rkT l < rkT r ∨ oat t.c 4 ≠ uw (rkT r + 1) then err [] 340 else rtn (F ++ l.toList ++ r.toList)) []) []
/-- All nodes, one behind the other: at the i-th one, with so many rounds left. -/
def wlkF (n : Int) : Nat → Nat → List Tr → Wd → (List Tr × Int) × Wd
  | 0, _, _ => err [] 340
  | k + 1, i, F => match F[i]? with
    | none => rtn F
    | some t => bnd (chiF n t F) (fun F1 => wlkF n k (i + 1) F1) []
def allF (h : Int) : Wd → (List Tr × Int) × Wd :=
  bnd (hepF h) (fun p => if 2147483647 < p.1 then err [] 340 else bnd (folF p.1 none p.2 []) (fun r => bnd (wlkF p.1 2147483649 0 r.toList) (fun F => if (F.length : Int) ≠ p.1 then err [] 340 else rtn F) []) []) []
/-- Entries in their order. -/
def insE (x : Int × Int) : List (Int × Int) → List (Int × Int)
  | [] => [x]
  | y :: l => if befE x y then x :: y :: l else y :: insE x l
def sortE (l : List (Int × Int)) : List (Int × Int) := l.foldl (fun l x => insE x l) []
def givesU (r : Int) : List Int → Wd → (Unit × Int) × Wd
  | [] => rtn ()
  | a :: l => bnd (giveU r a 5) (fun _ => givesU r l) ()

def Wd.rnew (r : Int) : Wd → (Int × Int) × Wd := bnd (fun s => s.take r 2) (fun q => bnd (putsU q [0, 0]) (fun _ => rtn q) 0) 0
def Wd.rpush (r h k x : Int) : Wd → (Unit × Int) × Wd := bnd (hepF h) (fun p => bnd (treF p.2) (fun t => bnd (uni (layF r (lef k x).c) 128 t (some (lef k x))) (fun q => becU h p (uw (p.1 + 1)) (toT q.1)) ()) ()) ()
def Wd.rpop (r h : Int) : Wd → (Option (Int × Int) × Int) × Wd := bnd (hepF h) (fun p => if p.2 = 0 then rtn none else bnd (treF p.2) (fun q => match q with
  | none => err none 340
  | some t => if reK (oat t.c 0) = true then bnd (mldF (oat t.c 2) (oat t.c 3)) (fun top => bnd (becU h p (uw (p.1 - 1)) top) (fun _ => bnd (giveU r t.at_ 5) (fun _ => rtn (some t.ent)) none) none) none else err none 340) none) none
def Wd.rfirst (h : Int) : Wd → (Option (Int × Int) × Int) × Wd := bnd (fun s => s.get (uw (h + 1))) (fun x => if x = 0 then rtn none else bnd (getsF (nodeA x) 2) (fun l => if reK (oat l 0) = true then rtn (some (oat l 0, oat l 1)) else err none 340) none) none
def Wd.rlen (h : Int) : Wd → (Int × Int) × Wd := bnd (fun s => s.get (uw (h + 0))) (fun c => rtn c) 0
def Wd.rjoin (h o : Int) : Wd → (Unit × Int) × Wd := if h = o then err () 2 else bnd (hepF h) (fun m => bnd (hepF o) (fun t => bnd (mldF m.2 t.2) (fun top => bnd (becU h m (uw (m.1 + t.1)) top) (fun _ => becU o t 0 0) ()) ()) ()) ()
def Wd.rall (h : Int) : Wd → (List (Int × Int) × Int) × Wd := bnd (allF h) (fun F => rtn (sortE (F.map Tr.ent))) []
def Wd.rclear (r h : Int) : Wd → (Int × Int) × Wd := bnd (allF h) (fun F => bnd (givesU r (F.map Tr.at_)) (fun _ => if F = [] then rtn 0 else bnd (putsU h [0, 0]) (fun _ => rtn (F.length : Int)) 0) 0) 0
end Go.Proofs.Ytalopkllldnipaa
