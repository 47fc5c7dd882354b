
/- Pure (layer 23): the calls of queue, by gets and puts. No statement of the seat is proved here. -/
import Derived.Test.YtadbplbifjeghaaQuA
namespace Go.Proofs.Ytadbplbifjeghaa
open Go.RowKit

/-- One call, and then another one, if it went well. -/
def bnd {α β : Type} (F : Wd → (α × Int) × Wd) (G : α → Wd → (β × Int) × Wd) (d : β) : Wd → (β × Int) × Wd := fun s => if (F s).1.2 ≠ 0 then ((d, (F s).1.2), (F s).2) else G (F s).1.1 (F s).2
def rtn {α : Type} (x : α) : Wd → (α × Int) × Wd := fun s => ((x, 0), s)
def err {α : Type} (d : α) (e : Int) : Wd → (α × Int) × Wd := fun s => ((d, e), s)
def putU (a x : Int) : Wd → (Unit × Int) × Wd := fun s => (((), (s.put a x).1), (s.put a x).2)
def giveU (r a n : Int) : Wd → (Unit × Int) × Wd := fun s => (((), (s.give r a n).1), (s.give r a n).2)
theorem bnd_ok {α β : Type} {F : Wd → (α × Int) × Wd} {G : α → Wd → (β × Int) × Wd} {d : β} {s s1 : Wd} {x : α} (h : F s = ((x, 0), s1)) : bnd F G d s = G x s1 := by unfold bnd; rw [h]; exact if_neg (fun q => q rfl)
theorem bnd_no {α β : Type} {F : Wd → (α × Int) × Wd} {G : α → Wd → (β × Int) × Wd} {d : β} {s s1 : Wd} {x : α} {e : Int} (h : F s = ((x, e), s1)) (he : e ≠ 0) : bnd F G d s = ((d, e), s1) := by unfold bnd; rw [h]; exact if_pos he

/-- get: so many cells from one on. -/
def getK (a : Int) (s : Wd) : Nat → (List Int × Int) × Wd
  | 0 => (([], 0), s)
  | k + 1 => if (getK a s k).1.2 ≠ 0 then getK a s k
    else if ((getK a s k).2.get (uw (a + k))).1.2 ≠ 0 then (([], ((getK a s k).2.get (uw (a + k))).1.2), ((getK a s k).2.get (uw (a + k))).2)
    else (((getK a s k).1.1 ++ [((getK a s k).2.get (uw (a + k))).1.1], 0), ((getK a s k).2.get (uw (a + k))).2)
/-- put: so many of these words, from one cell on. -/
def putK (a : Int) (l : List Int) (s : Wd) : Nat → Int × Wd
  | 0 => (0, s)
  | k + 1 => if (putK a l s k).1 ≠ 0 then putK a l s k else (putK a l s k).2.put (uw (a + k)) (oat l k)
theorem getK_stop (a : Int) (s : Wd) (k : Nat) (h : (getK a s k).1.2 ≠ 0) : ∀ j, getK a s (k + j) = getK a s k
  | 0 => rfl
  | j + 1 => by
    have ih := getK_stop a s k h j
    show (if (getK a s (k + j)).1.2 ≠ 0 then getK a s (k + j) else _) = _
    rw [ih, if_pos h]
theorem putK_stop (a : Int) (l : List Int) (s : Wd) (k : Nat) (h : (putK a l s k).1 ≠ 0) : ∀ j, putK a l s (k + j) = putK a l s k
  | 0 => rfl
  | j + 1 => by
    have ih := putK_stop a l s k h j
    show (if (putK a l s (k + j)).1 ≠ 0 then putK a l s (k + j) else _) = _
    rw [ih, if_pos h]
def Wd.gets (s : Wd) (a : Int) (n : Nat) : (List Int × Int) × Wd := getK a s n
def Wd.puts (s : Wd) (a : Int) (l : List Int) : Int × Wd := putK a l s l.length
def getsF (a : Int) (n : Nat) : Wd → (List Int × Int) × Wd := fun s => s.gets a n
def putsU (a : Int) (l : List Int) : Wd → (Unit × Int) × Wd := fun s => (((), (s.puts a l).1), (s.puts a l).2)

/-- The cells of a queue, and of a node, behind their first ones. -/
def q1 (q : Int) : Int := uw (q + 1)
def q2 (q : Int) : Int := uw (q + 2)
def nodeA (x : Int) : Int := uw (x - 1)
def hangU (q n : Int) : Wd → (Unit × Int) × Wd := bnd (fun s => s.get (q1 q)) (fun l => bnd (putU (if l = 0 then q else uw (nodeA l + 1)) (uw (n + 1))) (fun _ => putU (q1 q) (uw (n + 1))) ()) ()
def unhangU (q nx : Int) : Wd → (Unit × Int) × Wd := bnd (putU q nx) (fun _ => if nx = 0 then putU (q1 q) 0 else rtn ()) ()
def recountU (q m : Int) : Wd → (Unit × Int) × Wd := bnd (fun s => s.get (q2 q)) (fun c => putU (q2 q) (uw (c + m))) ()
def oneFewer : Int := 18446744073709551615
def Wd.qnew (r : Int) : Wd → (Int × Int) × Wd := bnd (fun s => s.take r 3) (fun q => bnd (putsU q [0, 0, 0]) (fun _ => rtn q) 0) 0
def Wd.qput (r q x : Int) : Wd → (Unit × Int) × Wd := bnd (fun s => s.take r 2) (fun n => bnd (putsU n [x, 0]) (fun _ => bnd (hangU q n) (fun _ => recountU q 1) ()) ()) ()
def Wd.qtake (r q : Int) : Wd → ((Int × Bool) × Int) × Wd := bnd (fun s => s.get q) (fun f => if f = 0 then rtn (0, false) else
  bnd (getsF (nodeA f) 2) (fun l => bnd (unhangU q (oat l 1)) (fun _ => bnd (recountU q oneFewer) (fun _ => bnd (giveU r (nodeA f) 2) (fun _ => rtn (oat l 0, true)) (0, false)) (0, false)) (0, false)) (0, false)) (0, false)
def Wd.qfirst (q : Int) : Wd → ((Int × Bool) × Int) × Wd := bnd (fun s => s.get q) (fun f => if f = 0 then rtn (0, false) else bnd (fun s => s.get (nodeA f)) (fun x => rtn (x, true)) (0, false)) (0, false)
def Wd.qlen (q : Int) : Wd → (Int × Int) × Wd := bnd (fun s => s.get (q2 q)) (fun c => rtn c) 0
/-- The chain, so many nodes being left. -/
def chn (last : Int) : Nat → Int → Int → List (Int × Int) → Wd → (List (Int × Int) × Int) × Wd
  | 0, at_, to, sp => if to = 0 then (if at_ = last then rtn sp else err [] 330) else err [] 330
  | k + 1, _at_, to, sp => if to = 0 then err [] 330 else if decide (to = last) ≠ decide (k = 0) then err [] 330 else
    bnd (getsF (nodeA to) 2) (fun l => chn last k to (oat l 1) (sp ++ [(nodeA to, oat l 0)])) []
def Wd.chain (q : Int) : Wd → (List (Int × Int) × Int) × Wd := bnd (getsF q 3) (fun l => if 65536 < oat l 2 then err [] 330 else chn (oat l 1) (oat l 2).toNat 0 (oat l 0) []) []
def Wd.qwords (q : Int) : Wd → (List Int × Int) × Wd := bnd (Wd.chain q) (fun sp => rtn (sp.map (·.2))) []
def givesU (r : Int) : List (Int × Int) → Wd → (Unit × Int) × Wd
  | [] => rtn ()
  | p :: sp => bnd (giveU r p.1 2) (fun _ => givesU r sp) ()
def Wd.qdrop (r q : Int) : Wd → (Unit × Int) × Wd := bnd (Wd.chain q) (fun sp => bnd (givesU r sp) (fun _ => giveU r q 3) ()) ()
end Go.Proofs.Ytadbplbifjeghaa
