
/- Pure (layer 22): links that are followed, the search, and the calls of a set, over words that are got and put. No statement of the seat is proved here. -/
import Derived.Test.YtifmpiiaebnbiaaSkA
namespace Go.Proofs.Ytifmpiiaebnbiaa
open Go.RowKit

/-- A link as it was got: its cell, what that has, the word of its node. -/
structure Lk where
  c : Int
  t : Int
  k : Int
def Lk.zero : Lk := ⟨0, 0, 0⟩
def Lk.v (l : Lk) : Value := .agg #[.int .u64 l.c, .int .u64 l.t, .int .u64 l.k]
def Lk.nd (l : Lk) : Int := uw (l.t - 1)
def Lk.leads (l : Lk) : Bool := l.t != 0
def Lk.Ok (l : Lk) : Prop := isW l.c ∧ isW l.t ∧ isW l.k
theorem zero_w : isW 0 := ⟨Int.le_refl _, by simp⟩
theorem Lk.zero_ok : Lk.zero.Ok := ⟨zero_w, zero_w, zero_w⟩
/-- A link is followed; n words were got so far. -/
def Wd.fol (s : Wd) (n : Nat) (a : Int) : (Lk × Int) × Nat × Wd :=
  match s.get a with
  | ((x, e), s1) =>
    if e ≠ 0 then ((Lk.zero, e), n, s1)
    else if x = 0 then ((⟨a, 0, 0⟩, 0), n, s1)
    else if n = 65536 then ((Lk.zero, 320), n, s1)
    else match s1.get (uw (x - 1)) with
      | ((k, f), s2) => if f ≠ 0 then ((Lk.zero, f), n + 1, s2) else ((⟨a, x, k⟩, 0), n + 1, s2)
/-- The search's last links, none yet. -/
def zeros : List Lk := List.replicate 8 Lk.zero
/-- The search: from a node's links on, at a level. -/
def sr (p : Int → Bool) : Nat → List Lk → Int → Nat → Nat → Wd → (List Lk × Int) × Wd
  | 0, _, _, _, _, s => ((zeros, 0), s)
  | f + 1, la, base, lv, n, s =>
    match s.fol n (uw (base + lv)) with
    | ((l, e), n', s') =>
      if e ≠ 0 then ((zeros, e), s')
      else if l.t ≠ 0 ∧ p l.k = true then sr p f (la.set lv l) (uw (l.nd + 2)) lv n' s'
      else match lv with
        | 0 => ((la.set 0 l, 0), s')
        | lv' + 1 => sr p f (la.set (lv' + 1) l) base lv' n' s'
def FU : Nat := 65545
def Wd.search (s : Wd) (p : Int → Bool) (at_ : Int) : (List Lk × Int) × Wd := sr p FU zeros at_ 7 0 s
def pLt (x : Int) (k : Int) : Bool := decide (k < x)
def pLe (x : Int) (k : Int) : Bool := decide (k ≤ x)
def lk (la : List Lk) (i : Nat) : Lk := la[i]?.getD Lk.zero
def haveB (la : List Lk) (x : Int) : Bool := (lk la 0).leads && decide ((lk la 0).k = x)
/-- Lay of a set: so many rounds. -/
def slay (at_ : Int) : Nat → Wd → Int × Wd
  | 0, s => (0, s)
  | k + 1, s => if (slay at_ k s).1 = 0 then (slay at_ k s).2.put (uw (at_ + k)) 0 else slay at_ k s
def Wd.slay (s : Wd) (at_ : Int) : Int × Wd := Go.Proofs.Ytifmpiiaebnbiaa.slay at_ 8 s
def Wd.snew (s : Wd) (room : Int) : (Int × Int) × Wd :=
  match s.take room 8 with
  | ((at_, e), s1) => if e ≠ 0 then ((0, e), s1) else match s1.slay at_ with
    | (f, s2) => if f ≠ 0 then ((0, f), s2) else ((at_, 0), s2)
def Wd.write (s : Wd) (node x lv : Int) : Int × Wd :=
  match s.put node x with
  | (e, s1) => if e ≠ 0 then (e, s1) else s1.put (uw (node + 1)) lv
/-- A node hung in: its links, from own on, of the levels that are left. -/
def hangL (node : Int) : List Lk → Int → Wd → Int × Wd
  | [], _, s => (0, s)
  | l :: la, o, s => match s.put o l.t with
    | (e, s1) => if e ≠ 0 then (e, s1) else match s1.put l.c (uw (node + 1)) with
      | (f, s2) => if f ≠ 0 then (f, s2) else hangL node la (uw (o + 1)) s2
def unhangL : List Lk → Int → Wd → Int × Wd
  | [], _, s => (0, s)
  | l :: la, o, s => match s.get o with
    | ((x, e), s1) => if e ≠ 0 then (e, s1) else match s1.put l.c x with
      | (f, s2) => if f ≠ 0 then (f, s2) else unhangL la (uw (o + 1)) s2
def Wd.levelOf (s : Wd) (node : Int) : (Int × Int) × Wd :=
  match s.get (uw (node + 1)) with
  | ((x, e), s1) => if e ≠ 0 then ((0, e), s1) else if x < 1 ∨ 8 < x then ((0, 320), s1) else ((x, 0), s1)
def hgt (level : Int) : Int := min (max level 1) 8
def Wd.ins (s : Wd) (room at_ x level : Int) : (Bool × Int) × Wd :=
  match s.search (pLt x) at_ with
  | ((la, e), s1) =>
    if e ≠ 0 ∨ haveB la x = true then ((false, e), s1)
    else match s1.take room (uw (2 + hgt level)) with
      | ((node, f), s2) => if f ≠ 0 then ((false, f), s2) else match s2.write node x (hgt level) with
        | (f2, s3) => if f2 ≠ 0 then ((false, f2), s3) else match hangL node (la.take (hgt level).toNat) (uw (node + 2)) s3 with
          | (f3, s4) => ((decide (f3 = 0), f3), s4)
def Wd.rem (s : Wd) (room at_ x : Int) : (Bool × Int) × Wd :=
  match s.search (pLt x) at_ with
  | ((la, e), s1) =>
    if e ≠ 0 ∨ haveB la x = false then ((false, e), s1)
    else match s1.levelOf (lk la 0).nd with
      | ((n, f), s2) => if f ≠ 0 then ((false, f), s2) else match unhangL (la.take n.toNat) (uw ((lk la 0).nd + 2)) s2 with
        | (f2, s3) => if f2 ≠ 0 then ((false, f2), s3) else match s3.give room (lk la 0).nd (uw (2 + n)) with
          | (f3, s4) => ((decide (f3 = 0), f3), s4)
def Wd.has (s : Wd) (at_ x : Int) : (Bool × Int) × Wd :=
  match s.search (pLt x) at_ with
  | ((la, e), s1) => ((haveB la x, e), s1)
def Wd.first (s : Wd) (at_ : Int) : (Int × Bool × Int) × Wd :=
  match s.fol 0 at_ with
  | ((l, e), _, s1) => ((l.k, l.leads, e), s1)
def Wd.aft (s : Wd) (at_ x : Int) : (Int × Bool × Int) × Wd :=
  match s.search (pLe x) at_ with
  | ((la, e), s1) => (((lk la 0).k, (lk la 0).leads, e), s1)
/-- All words, along the links of the level 0: what is told so far, the link at hand. -/
def eachL : Nat → List Int → Lk → Int → Nat → Wd → (List Int × Int) × Wd
  | 0, out, _, e, _, s => ((out, e), s)
  | f + 1, out, l, e, n, s =>
    if e = 0 ∧ l.t ≠ 0 then match s.fol n (uw (l.nd + 2)) with
      | ((l', e'), n', s') => eachL f (out ++ [l.k]) l' e' n' s'
    else ((out, e), s)
def Wd.each (s : Wd) (at_ : Int) : (List Int × Int) × Wd :=
  match s.fol 0 at_ with
  | ((l, e), n, s1) => eachL FU [] l e n s1
def Wd.keys (s : Wd) (at_ : Int) : (List Int × Int) × Wd :=
  match s.each at_ with
  | ((out, e), s1) => if e ≠ 0 then (([], e), s1) else ((out, 0), s1)
def Wd.len (s : Wd) (at_ : Int) : (Int × Int) × Wd :=
  match s.each at_ with
  | ((out, e), s1) => if e ≠ 0 then ((0, e), s1) else (((out.length : Int), 0), s1)

/-- What following keeps to. -/
structure FolOk (s : Wd) (n : Nat) (r : (Lk × Int) × Nat × Wd) : Prop where
  ok : r.2.2.Ok
  lk : r.1.1.Ok
  w : r.2.2.W = s.W
  ge : n ≤ r.2.1
  le : n ≤ 65536 → r.2.1 ≤ 65536
  len : r.2.2.L.length ≤ s.L.length + 2
  up : r.1.2 = 0 → r.1.1.t ≠ 0 → r.2.1 = n + 1
  full : n = 65536 → r.1.2 = 0 → r.1.1.t = 0
  er : r.1.2 ≠ 0 → r.1.1 = Lk.zero
theorem fol_ok {s : Wd} (h : s.Ok) (n : Nat) {a : Int} (ha : isW a) : FolOk s n (s.fol n a) := by
  obtain ⟨⟨⟨x, e⟩, s1⟩, eq1⟩ : ∃ r, s.get a = r := ⟨_, rfl⟩
  have h1 := h.get a
  have l1 := get_len s a
  rw [eq1] at h1 l1
  have l1' : s1.L.length = s.L.length + 1 := l1
  unfold Wd.fol
  rw [eq1]
  dsimp only
  split
  · exact ⟨h1.1, Lk.zero_ok, h1.2.2, Nat.le_refl _, fun q => q, by dsimp only; omega, fun e0 => absurd e0 ‹_›, fun _ _ => rfl, fun _ => rfl⟩
  · split
    · exact ⟨h1.1, ⟨ha, zero_w, zero_w⟩, h1.2.2, Nat.le_refl _, fun q => q, by dsimp only; omega, fun _ q => absurd rfl q, fun _ _ => rfl, fun q => absurd rfl q⟩
    · split
      · exact ⟨h1.1, Lk.zero_ok, h1.2.2, Nat.le_refl _, fun q => q, by dsimp only; omega, fun e0 => by simp at e0, fun _ _ => rfl, fun _ => rfl⟩
      · rename_i hn
        obtain ⟨⟨⟨k, f⟩, s2⟩, eq2⟩ : ∃ r, s1.get (uw (x - 1)) = r := ⟨_, rfl⟩
        have h2 := h1.1.get (uw (x - 1))
        have l2 := get_len s1 (uw (x - 1))
        rw [eq2] at h2 l2
        have l2' : s2.L.length = s1.L.length + 1 := l2
        rw [eq2]
        dsimp only
        split
        · exact ⟨h2.1, Lk.zero_ok, h2.2.2.trans h1.2.2, Nat.le_succ _, fun q => by dsimp only; omega, by dsimp only; omega, fun e0 => absurd e0 ‹_›, fun q => absurd q hn, fun _ => rfl⟩
        · exact ⟨h2.1, ⟨ha, h1.2.1, h2.2.1⟩, h2.2.2.trans h1.2.2, Nat.le_succ _, fun q => by dsimp only; omega, by dsimp only; omega, fun _ _ => rfl, fun q => absurd q hn, fun q => absurd rfl q⟩
end Go.Proofs.Ytifmpiiaebnbiaa
