
/- Pure: events, when they are in form, a thread's turns, which histories can be, their attempts. No statement of the seat is proved here. -/
import Derived.Test.YthgkbmfnidehbaaDoorCdM
namespace Go.Proofs.YthgkbmfnidehbaaDoor
open Go.RowKit Go.Shelf

/-- An event. -/
structure Ev where
  th : Int
  kd : Int
  ad : Int
  wd : Int
  own : Bool
  er : Int
@[reducible] def Ev.cells (e : Ev) : Array Value := #[.int .i64 e.th, .int .i64 e.kd, .int .u64 e.ad, .int .u64 e.wd, .bool e.own, .int .i64 e.er]
/-- The numbers of an event are numbers of their kinds. -/
def Ev.wf (e : Ev) : Prop := (-9223372036854775808 ≤ e.th ∧ e.th < 9223372036854775808) ∧ (-9223372036854775808 ≤ e.kd ∧ e.kd < 9223372036854775808) ∧ (0 ≤ e.ad ∧ e.ad < 18446744073709551616) ∧ (0 ≤ e.wd ∧ e.wd < 18446744073709551616) ∧ (-9223372036854775808 ≤ e.er ∧ e.er < 9223372036854775808)
def ev0 : Ev := ⟨0, 0, 0, 0, false, 0⟩
/-- What a kind names. -/
def adB (k : Int) : Bool := ([false, false, true, true, false, false, false, false, false, false, true, true, false][k.toNat]?).getD false
def wdB (k : Int) : Bool := ([false, true, true, true, true, false, true, false, false, false, true, true, false][k.toNat]?).getD false
def erB (k : Int) : Bool := ([false, false, false, false, false, false, false, false, false, true, false, false, false][k.toNat]?).getD false
def inB (e : Ev) : Bool := decide (0 ≤ e.th) && decide (e.th < 8) && decide (1 ≤ e.kd) && decide (e.kd ≤ 12)
def bareB (e : Ev) : Bool := (!e.own || decide (e.kd = 2)) && (adB e.kd || decide (e.ad = 0)) && (wdB e.kd || decide (e.wd = 0)) && (erB e.kd || decide (e.er = 0))
def lastB (e : Ev) : Bool := (!(decide (e.kd = 1) || decide (e.kd = 4)) || decide (e.wd % 2 = 0)) && (!decide (e.kd = 9) || (decide (e.er = 4) || decide (e.er = 5) || decide (e.er = 6)))
def formedE (e : Ev) : Bool := inB e && bareB e && lastB e
theorem kd12 {k : Int} (h0 : 1 ≤ k) (h1 : k ≤ 12) : k = 1 ∨ k = 2 ∨ k = 3 ∨ k = 4 ∨ k = 5 ∨ k = 6 ∨ k = 7 ∨ k = 8 ∨ k = 9 ∨ k = 10 ∨ k = 11 ∨ k = 12 := by omega
theorem formed_in {e : Ev} (h : formedE e = true) : 0 ≤ e.th ∧ e.th < 8 ∧ 1 ≤ e.kd ∧ e.kd ≤ 12 := by
  unfold formedE inB at h
  simp only [Bool.and_eq_true, decide_eq_true_eq] at h
  omega

/-- A thread's turns: 1 outside, 2 inside, 3 with the lock, 4 over; 0: none. -/
def turnN (st : Nat) (e : Ev) : Nat :=
  if st = 1 then (if e.kd = 1 then 2 else if e.kd = 10 ∨ e.kd = 11 then 1 else if e.kd = 9 then (if e.er = 4 then 4 else 0) else if e.kd = 12 then 4 else 0)
  else if st = 2 then (if e.kd = 2 ∨ e.kd = 3 ∨ e.kd = 4 then 2 else if e.kd = 5 then 3 else if e.kd = 6 ∨ e.kd = 7 ∨ e.kd = 8 then 1 else if e.kd = 9 then 4 else 0)
  else if st = 3 then (if e.kd = 6 then 1 else 0) else 0
/-- How one thread stands: its state, its snapshot, its Writes, the last one first. -/
structure Sd where
  st : Nat
  sn : Int
  wr : List (Int × Int)
/-- How all stands. -/
structure St where
  n : Int
  t : List Sd
def sd0 : Sd := ⟨1, 0, []⟩
def st0 : St := ⟨0, List.replicate 8 sd0⟩
def St.sd (S : St) (i : Nat) : Sd := (S.t[i]?).getD sd0
def heldB (S : St) : Bool := S.t.any fun s => decide (s.st = 3)
def clkB (k : Int) : Bool := decide (k = 1) || decide (k = 4) || decide (k = 5)
def numE (n : Int) (s : Sd) (e : Ev) : Bool :=
  if e.kd = 1 then decide (e.wd = 2 * n) else if e.kd = 4 then (decide (e.wd = 2 * n) && decide (s.sn < e.wd)) else if e.kd = 5 then decide (s.sn = 2 * n)
  else if e.kd = 6 then (if s.st = 3 then decide (e.wd = n + 1) else decide (e.wd = s.sn / 2)) else true
def ownE (s : Sd) (e : Ev) : Bool :=
  if e.kd = 2 then (match s.wr.lookup e.ad with | some x => e.own && decide (x = e.wd) | none => !e.own)
  else if e.kd = 5 then decide (s.wr ≠ []) else if e.kd = 6 then (decide (s.st = 3) || decide (s.wr = [])) else true
def errS (held : Bool) (n : Int) (s : Sd) (e : Ev) : Int :=
  if formedE e = false then 201 else if turnN s.st e = 0 then 230 else if (held && clkB e.kd) = true then 231 else if numE n s e = false then 232 else if ownE s e = false then 233 else 0
def errE (S : St) (e : Ev) : Int := errS (heldB S) S.n (S.sd e.th.toNat) e
def nextSd (s : Sd) (e : Ev) : Sd := ⟨turnN s.st e, if e.kd = 1 ∨ e.kd = 4 then e.wd else s.sn, if e.kd = 1 then [] else if e.kd = 3 then (e.ad, e.wd) :: s.wr else s.wr⟩
def nextS (S : St) (e : Ev) : St := ⟨if e.kd = 6 ∧ (S.sd e.th.toNat).st = 3 then S.n + 1 else S.n, S.t.set e.th.toNat (nextSd (S.sd e.th.toNat) e)⟩
/-- What is wrong with a history, from a place on. -/
def chk (S : St) : List Ev → Nat → Int × Int
  | [], _ => (-1, 0)
  | e :: h, k => if errE S e = 0 then chk (nextS S e) h (k + 1) else (k, errE S e)
def checkL (h : List Ev) : Int × Int := chk st0 h 0
def runS (h : List Ev) : St := h.foldl nextS st0
theorem runS_push (h : List Ev) (e : Ev) : runS (h ++ [e]) = nextS (runS h) e := by simp [runS]

theorem chk_append : ∀ (h g : List Ev) (S : St) (k : Nat), (chk S h k).2 = 0 → chk S (h ++ g) k = chk (h.foldl nextS S) g (k + h.length)
  | [], g, S, k, _ => by simp
  | e :: h, g, S, k, hc => by
    rw [chk] at hc
    by_cases he : errE S e = 0
    · rw [if_pos he] at hc
      rw [List.cons_append, chk, if_pos he, chk_append h g _ _ hc]
      simp only [List.foldl_cons, List.length_cons]
      rw [show k + 1 + h.length = k + (h.length + 1) by omega]
    · rw [if_neg he] at hc; exact absurd hc he
theorem chk_yes : ∀ (h : List Ev) (S : St) (k : Nat), (chk S h k).2 = 0 → chk S h k = (-1, 0)
  | [], S, k, _ => rfl
  | e :: h, S, k, hc => by
    rw [chk] at hc ⊢
    by_cases he : errE S e = 0
    · rw [if_pos he] at hc ⊢; exact chk_yes h _ _ hc
    · rw [if_neg he] at hc; exact absurd hc he
theorem chk_no : ∀ (h : List Ev) (S : St) (k : Nat), (chk S h k).2 ≠ 0 → ∃ j : Nat, j < h.length ∧ (chk S h k).1 = ((k + j : Nat) : Int) ∧ (chk S (h.take j) k).2 = 0 ∧ errE ((h.take j).foldl nextS S) ((h[j]?).getD ev0) = (chk S h k).2
  | [], S, k, hc => absurd rfl hc
  | e :: h, S, k, hc => by
    rw [chk] at hc ⊢
    by_cases he : errE S e = 0
    · rw [if_pos he] at hc ⊢
      obtain ⟨j, h1, h2, h3, h4⟩ := chk_no h _ _ hc
      refine ⟨j + 1, by simpa using h1, by rw [h2]; congr 1; omega, ?_, ?_⟩
      · rw [List.take_succ_cons, chk, if_pos he]; exact h3
      · simpa using h4
    · rw [if_neg he] at hc ⊢
      exact ⟨0, by simp, by simp, rfl, by simp⟩
/-- Up to a place all can be. -/
theorem chk_take {h : List Ev} {S : St} {k j : Nat} (hc : (chk S h k).2 = 0) : (chk S (h.take j) k).2 = 0 := by
  induction h generalizing S k j with
  | nil => simp [chk]
  | cons e h ih =>
    cases j with
    | zero => rfl
    | succ j =>
      rw [chk] at hc
      by_cases he : errE S e = 0
      · rw [if_pos he] at hc
        rw [List.take_succ_cons, chk, if_pos he]; exact ih hc
      · rw [if_neg he] at hc; exact absurd hc he
theorem chk_push {h : List Ev} {e : Ev} {S : St} {k : Nat} (hc : (chk S h k).2 = 0) : chk S (h ++ [e]) k = if errE (h.foldl nextS S) e = 0 then (-1, 0) else (((k + h.length : Nat) : Int), errE (h.foldl nextS S) e) := by
  rw [chk_append h [e] S k hc, chk]
  split <;> simp [chk]

/-- An attempt. -/
structure Ty where
  th : Int
  fi : Int
  la : Int
  sn : Int
  how : Int
  rd : Int
  wr : Int
@[reducible] def Ty.cells (t : Ty) : Array Value := #[.int .i64 t.th, .int .i64 t.fi, .int .i64 t.la, .int .u64 t.sn, .int .i64 t.how, .int .i64 t.rd, .int .i64 t.wr]
def ty0 : Ty := ⟨0, 0, 0, 0, 0, 0, 0⟩
def endB (k : Int) : Bool := decide (6 ≤ k ∧ k ≤ 9)
def noteT (t : Ty) (at_ : Int) (e : Ev) : Ty := ⟨t.th, t.fi, at_, if e.kd = 1 ∨ e.kd = 4 then e.wd else t.sn, if endB e.kd then e.kd else t.how, if e.kd = 2 ∧ e.own = false then t.rd + 1 else t.rd, if e.kd = 3 then t.wr + 1 else t.wr⟩
/-- The attempts so far, and of each thread how many there are up to its open one (0: none). -/
structure Tr where
  l : List Ty
  o : List Nat
def tr0 : Tr := ⟨[], List.replicate 8 0⟩
def openT (T : Tr) (k : Nat) (e : Ev) : Tr := if e.kd = 1 then ⟨T.l ++ [⟨e.th, k, 0, 0, 0, 0, 0⟩], T.o.set e.th.toNat (T.l.length + 1)⟩ else T
def Tr.at (T : Tr) (i : Nat) : Nat := (T.o[i]?).getD 0
def markT (T : Tr) (k : Nat) (e : Ev) : Tr :=
  if T.at e.th.toNat = 0 then T else
  let t := noteT ((T.l[T.at e.th.toNat - 1]?).getD ty0) k e
  ⟨T.l.set (T.at e.th.toNat - 1) t, if t.how = 0 then T.o else T.o.set e.th.toNat 0⟩
def stepT (T : Tr) (k : Nat) (e : Ev) : Tr := markT (openT T k e) k e
def triesF : Tr → List Ev → Nat → Tr
  | T, [], _ => T
  | T, e :: h, k => triesF (stepT T k e) h (k + 1)
def triesL (h : List Ev) : List Ty := (triesF tr0 h 0).l
theorem triesF_append : ∀ (T : Tr) (h g : List Ev) (k : Nat), triesF T (h ++ g) k = triesF (triesF T h k) g (k + h.length)
  | T, [], g, k => by simp [triesF]
  | T, e :: h, g, k => by
    rw [List.cons_append, triesF, triesF, triesF_append]
    simp only [List.length_cons]
    rw [show k + 1 + h.length = k + (h.length + 1) by omega]
end Go.Proofs.YthgkbmfnidehbaaDoor
