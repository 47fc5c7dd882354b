
/-
  An attempt as it lies in memory: its own block, its two logs, the row and the clock that it goes over. No statement of the seat is proved here.
-/
import Derived.Test.YtmhinalgjfiliaaDoorKClkM
import Derived.Test.YtmhinalgjfiliaaDoorWorks
namespace Go.Proofs.YtmhinalgjfiliaaDoor
open Go.RowKit Go.Shelf

/-- An attempt's state. -/
structure Sd where
  sn : Int
  rd : List (Int × Int)
  wr : List (Int × Int)
  ph : Int
  th : Int
  ad : Int
  wo : Int
  fo : Int
  pl : Int

/-- The state of an attempt that is over. -/
def sdOver : Sd := ⟨0, [], [], 10, 0, 0, 0, 0, 0⟩

def ptr (b : Nat) : Value := .pointer (some ⟨b, 0, none⟩)
def mv (f a : Nat) : Value := .func (.func f) #[.pointer (some ⟨a, 0, none⟩)] #[]
def attV (a rb ck rr dr : Nat) (S : Sd) : Array Value :=
  #[.pointer (some ⟨rb, 0, none⟩), .pointer (some ⟨ck, 0, none⟩), .int .u64 S.sn, .pointer (some ⟨rr, 0, none⟩), .pointer (some ⟨dr, 0, none⟩), .int .i64 S.ph, .int .i64 S.th, .int .u64 S.ad, .int .u64 S.wo, .int .u64 S.fo, .int .i64 S.pl,
    .nilFunc, .nilFunc, mv 59 a, mv 60 a, mv 61 a, mv 62 a, mv 63 a, mv 39 a, mv 64 a, mv 65 a, .nilFunc]
/-- The block of an attempt that was ended. -/
def overV : Array Value :=
  #[.pointer none, .pointer none, .int .u64 0, .pointer none, .pointer none, .int .i64 10, .int .i64 0, .int .u64 0, .int .u64 0, .int .u64 0, .int .i64 0,
    .nilFunc, .nilFunc, .nilFunc, .nilFunc, .nilFunc, .nilFunc, .nilFunc, .nilFunc, .nilFunc, .nilFunc, .nilFunc]

/-- The blocks of the row and the clock that attempts go over. -/
structure Sh where
  rb : Nat
  rc : Nat
  ck : Nat
  cb : Nat
  cc : Nat
def Sh.own (R : Sh) (q : Nat) : Prop := q = R.rb ∨ q = R.rc ∨ q = R.ck ∨ q = R.cb ∨ q = R.cc
structure ShAt (w : World) (R : Sh) (ws : List Int) (x : Int) : Prop where
  row : ∃ n, C.RowAt w 59 34 R.rb R.rc ws n
  clk : ∃ st, C.ClkAt w R.ck R.cb R.cc x st
  ap : ∀ q, C.own3 R.ck R.cb R.cc q → q ≠ R.rb ∧ q ≠ R.rc

section
variable {w w' : World} {R : Sh} {ws : List Int} {x : Int}
theorem ShAt.lt (h : ShAt w R ws x) {q : Nat} (hq : R.own q) : q < w.heap.size := by
  obtain ⟨n, r⟩ := h.row
  obtain ⟨st, c⟩ := h.clk
  rcases hq with rfl | rfl | rfl | rfl | rfl
  · exact r.ltb
  · exact r.ltc
  · exact c.ltp
  · exact c.ltb
  · exact c.ltc
theorem ShAt.kept {T : Nat → Prop} (h : ShAt w R ws x) (k : Keeps T w w') (hT : ∀ q, R.own q → ¬ T q) : ShAt w' R ws x := by
  obtain ⟨n, r⟩ := h.row
  obtain ⟨st, c⟩ := h.clk
  exact ⟨⟨n, r.kept k (hT _ (.inl rfl)) (hT _ (.inr (.inl rfl)))⟩, ⟨st, c.kept k (fun i hi => hT i (.inr (.inr hi)))⟩, h.ap⟩
theorem ShAt.row' (h : ShAt w R ws x) {n : Int} {ws' : List Int} (r : C.RowAt w' 59 34 R.rb R.rc ws' n) (k : Keeps (fun q => q = R.rb ∨ q = R.rc) w w') : ShAt w' R ws' x := by
  obtain ⟨st, c⟩ := h.clk
  exact ⟨⟨n, r⟩, ⟨st, c.kept k (fun i hi e => by have := h.ap i hi; omega)⟩, h.ap⟩
theorem ShAt.clk' (h : ShAt w R ws x) {st x' : Int} (c : C.ClkAt w' R.ck R.cb R.cc x' st) (k : Keeps (C.own3 R.ck R.cb R.cc) w w') : ShAt w' R ws x' := by
  obtain ⟨n, r⟩ := h.row
  exact ⟨⟨n, r.kept k (fun e => (h.ap _ e).1 rfl) (fun e => (h.ap _ e).2 rfl)⟩, ⟨st, c⟩, h.ap⟩
theorem ShAt.lo (h : ShAt w R ws x) : 0 ≤ x := by obtain ⟨st, c⟩ := h.clk; exact c.lo
theorem ShAt.hi (h : ShAt w R ws x) : x < 18446744073709551616 := by obtain ⟨st, c⟩ := h.clk; exact c.hi
end

/-- An attempt that was not ended, with its logs and their blocks. -/
structure AttX (w : World) (a : Nat) (R : Sh) (rr dr : Nat) (L : List (Int × Int)) (Or Od : Nat → Prop) (S : Sd) : Prop where
  box : w.heap[a]? = some (.cells (attV a R.rb R.ck rr dr S) 80 (0, 0))
  rd : RLogAt w rr 1024 S.rd Or
  wr : LogAt w dr 1024 L Od
  eq : redoE L = S.wr
  nr : ¬ Or a
  nd : ¬ Od a
  ap : ∀ q, Or q → ¬ Od q
/-- Its own blocks. -/
def AOwn (a : Nat) (Or Od : Nat → Prop) (q : Nat) : Prop := q = a ∨ Or q ∨ Od q

section
variable {w w' : World} {a rr dr : Nat} {R : Sh} {L : List (Int × Int)} {Or Od : Nat → Prop} {S : Sd}
theorem AttX.kept {T : Nat → Prop} (h : AttX w a R rr dr L Or Od S) (k : Keeps T w w') (hT : ∀ q, AOwn a Or Od q → ¬ T q) : AttX w' a R rr dr L Or Od S :=
  ⟨k.old h.box (hT a (.inl rfl)), h.rd.kept k (fun q hq => hT q (.inr (.inl hq))), h.wr.kept k (fun q hq => hT q (.inr (.inr hq))), h.eq, h.nr, h.nd, h.ap⟩
theorem AttX.lt (h : AttX w a R rr dr L Or Od S) {q : Nat} (hq : AOwn a Or Od q) : q < w.heap.size := by
  rcases hq with rfl | hq | hq
  · exact lt_of_block h.box
  · exact h.rd.lt hq
  · exact h.wr.lt hq
theorem AttX.cell (h : AttX w a R rr dr L Or Od S) (i : Nat) : w.cell? ⟨a, i, none⟩ = (attV a R.rb R.ck rr dr S)[i]? := cell_of_block h.box i
theorem AttX.fr (h : AttX w a R rr dr L Or Od S) (i : Nat) : w.frozen? ⟨a, i, none⟩ = false := frozen_of_block h.box i
/-- The block alone is written. -/
theorem AttX.write (h : AttX w a R rr dr L Or Od S) (k : Keeps (fun q => q = a) w w') {S' : Sd} (hb : w'.heap[a]? = some (.cells (attV a R.rb R.ck rr dr S') 80 (0, 0))) (h1 : S'.rd = S.rd) (h2 : S'.wr = S.wr) : AttX w' a R rr dr L Or Od S' :=
  ⟨hb, by rw [h1]; exact h.rd.kept k (fun q hq e => h.nr (e ▸ hq)), h.wr.kept k (fun q hq e => h.nd (e ▸ hq)), by rw [h2]; exact h.eq, h.nr, h.nd, h.ap⟩
end
end Go.Proofs.YtmhinalgjfiliaaDoor
