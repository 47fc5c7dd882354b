/-
  No statement of the seat is proved here. (Several texts in one: AyH, AzA, AyI, AyJ.)
-/
import Derived.Test.YtppejcfghlpbjaaGreatDoorM17AyFC
import Derived.Test.YtppejcfghlpbjaaGreatDoorM18AxD

/- What ParseScript has of a script's first lines (package asm). No statement of the seat is proved here. -/
namespace Go.Proofs.YtppejcfghlpbjaaGreatDoor
open Go.RowKit Go.Shelf

/-- The first lines, one behind the other. -/
def foldS (st : Nat) (x : Sc) : List (List UInt8) → Option (Nat × Sc)
  | [] => some (st, x)
  | L :: R => if L.getLast? = some 10 then (lineS st x L.dropLast).bind fun p => foldS p.1 p.2 R else none
theorem foldS_app : ∀ (pre R : List (List UInt8)) (st : Nat) (x : Sc) (n st' : Nat) (x' : Sc), foldS st x pre = some (st', x') → readS st x n (pre ++ R) = readS st' x' (n + pre.length) R
  | [], R, st, x, n, st', x', h => by
    simp only [foldS, Option.some.injEq, Prod.mk.injEq] at h
    obtain ⟨rfl, rfl⟩ := h
    simp
  | L :: pre, R, st, x, n, st', x', h => by
    rw [foldS] at h
    rw [List.cons_append, readS]
    split at h
    · rename_i h1
      rw [if_pos h1]
      cases hl : lineS st x L.dropLast with
      | none => rw [hl] at h; cases h
      | some p =>
        obtain ⟨a, b⟩ := p
        rw [hl, Option.bind_some] at h
        dsimp only
        rw [foldS_app pre R a b (n + 1) st' x' h]
        congr 1
        simp; omega
    · cases h
theorem foldS_snoc : ∀ (pre : List (List UInt8)) (L : List UInt8) (st : Nat) (x : Sc) (st' : Nat) (x' : Sc), foldS st x pre = some (st', x') → foldS st x (pre ++ [L]) = if L.getLast? = some 10 then lineS st' x' L.dropLast else none
  | [], L, st, x, st', x', h => by
    simp only [foldS, Option.some.injEq, Prod.mk.injEq] at h
    obtain ⟨rfl, rfl⟩ := h
    rw [List.nil_append, foldS]
    split
    · cases lineS st x L.dropLast <;> rfl
    · rfl
  | K :: pre, L, st, x, st', x', h => by
    rw [foldS] at h
    rw [List.cons_append, foldS]
    split at h
    · rename_i h1
      rw [if_pos h1]
      cases hl : lineS st x K.dropLast with
      | none => rw [hl] at h; cases h
      | some p =>
        rw [hl, Option.bind_some] at h
        rw [Option.bind_some]
        exact foldS_snoc pre L p.1 p.2 st' x' h
    · cases h
theorem lineS_forms {st : Nat} {x : Sc} {s : List UInt8} {r : Nat × Sc} (h : lineS st x s = some r) : (∃ c, st = 0 ∧ r = (1, { x with cells := c })) ∨ (∃ L, st = 1 ∧ r = (2, { x with first := L })) ∨ (1 ≤ st ∧ st ≤ 3 ∧ r = (3, { x with progs := x.progs ++ [[]] })) ∨ (∃ L, r = (4, { x with picks := x.picks ++ L })) ∨ ∃ i, st = 3 ∧ r = (3, { x with progs := lastPush x.progs i }) := by
  unfold lineS at h
  split at h
  · rename_i c hc
    split at hc
    · rename_i h0
      exact .inl ⟨c, h0, (Option.some.inj h).symm⟩
    · cases hc
  · split at h
    · rename_i L hL
      split at hL
      · rename_i h1
        exact .inr (.inl ⟨L, h1, (Option.some.inj h).symm⟩)
      · cases hL
    · split at h
      · rename_i h1
        exact .inr (.inr (.inl ⟨h1.1, h1.2.1, (Option.some.inj h).symm⟩))
      · split at h
        · rename_i L hL
          exact .inr (.inr (.inr (.inl ⟨L, (Option.some.inj h).symm⟩)))
        · split at h
          · rename_i h3
            rw [Option.map_eq_some_iff] at h
            obtain ⟨i, _, rfl⟩ := h
            exact .inr (.inr (.inr (.inr ⟨i, h3, rfl⟩)))
          · cases h
/-- What holds of a script while its lines are read. -/
structure InvS (n st : Nat) (x : Sc) : Prop where
  le : st ≤ 4
  three : st = 3 → x.progs ≠ []
  pk : st ≤ 3 → x.picks = []
  np : x.progs.length ≤ n
  each : ∀ p ∈ x.progs, p.length ≤ n
theorem InvS.step {n st st' : Nat} {x x' : Sc} {s : List UInt8} (h : InvS n st x) (hl : lineS st x s = some (st', x')) : InvS (n + 1) st' x' := by
  have hn := h.np
  have he : ∀ p ∈ x.progs, p.length ≤ n + 1 := fun p hp => Nat.le_succ_of_le (h.each p hp)
  rcases lineS_forms hl with ⟨c, h0, e⟩ | ⟨L, h1, e⟩ | ⟨h1, h3, e⟩ | ⟨L, e⟩ | ⟨i, h3, e⟩
  · obtain ⟨rfl, rfl⟩ := Prod.mk.inj e
    exact ⟨by omega, fun q => by omega, fun _ => h.pk (by omega), Nat.le_succ_of_le hn, he⟩
  · obtain ⟨rfl, rfl⟩ := Prod.mk.inj e
    exact ⟨by omega, fun q => by omega, fun _ => h.pk (by omega), Nat.le_succ_of_le hn, he⟩
  · obtain ⟨rfl, rfl⟩ := Prod.mk.inj e
    refine ⟨by omega, fun _ => by simp, fun _ => h.pk h3, by simp; omega, fun p hp => ?_⟩
    rcases List.mem_append.1 hp with hp | hp
    · exact he p hp
    · simp only [List.mem_singleton] at hp; subst hp; simp
  · obtain ⟨rfl, rfl⟩ := Prod.mk.inj e
    exact ⟨by omega, fun q => by omega, fun q => by omega, Nat.le_succ_of_le hn, he⟩
  · obtain ⟨rfl, rfl⟩ := Prod.mk.inj e
    have hl2 : (lastPush x.progs i).length = x.progs.length := by simp [lastPush]
    refine ⟨by omega, fun _ q => ?_, fun _ => h.pk (by omega), by show (lastPush x.progs i).length ≤ n + 1; omega, fun p hp => ?_⟩
    · have q' : (lastPush x.progs i).length = 0 := by rw [show lastPush x.progs i = [] from q]; rfl
      have := List.length_pos_iff.2 (h.three h3)
      omega
    · obtain ⟨q, hq, hle⟩ := lastPush_le _ _ p hp
      have := h.each q hq
      omega

theorem Sy.keepsB {W W' : World} {S : Nat → Prop} {B gx d : Nat} {vf vp vk : Value} {ps : List Value} {x : Sc} (h : Sy W B gx d vf vp vk ps x) (k : Keeps S W W') (hS : ∀ q, S q → q < B ∧ q ≠ gx) : Sy W' B gx d vf vp vk ps x :=
  ⟨(k.block gx (lt_of_block h.box) (fun e => (hS _ e).2 rfl)).trans h.box, h.first.keeps k (fun g e f => by have := (own_block h.first.own e).2; have := (hS g f).1; omega), own_keeps h.progs k (fun g e f => by have := (own_block h.progs e).2; have := (hS g f).1; omega), h.plen, fun j h1 h2 => (h.each j h1 h2).keeps k (fun g e f => by have := (own_block (h.each j h1 h2).own e).2; have := (hS g f).1; omega), ⟨own_keeps h.picks.own k (fun g e f => by have := (own_block h.picks.own e).2; have := (hS g f).1; omega), Nat.le_trans h.picks.base k.size⟩, h.wf, h.mark⟩
theorem Sy.grown {A A' : World} {row : Option Nat} {B gx d : Nat} {vf vp vk : Value} {ps : List Value} {x : Sc} (h : Sy A B gx d vf vp vk ps x) (hg : A.grownBy A' row) (hr : ∀ q, row = some q → ∃ o : Obj, A.heap[q]? = some o ∧ o.isCells = false) : Sy A' B gx d vf vp vk ps x :=
  ⟨block_kept h.box hg hr, ⟨row_kept hg hr h.first.own, Nat.le_trans h.first.base hg.size⟩, row_kept hg hr h.progs, h.plen, fun j h1 h2 => ⟨row_kept hg hr (h.each j h1 h2).own, Nat.le_trans (h.each j h1 h2).base hg.size⟩, ⟨row_kept hg hr h.picks.own, Nat.le_trans h.picks.base hg.size⟩, h.wf, h.mark⟩
/-- The rows of a script of the call's own, told apart by their marks. -/
structure Sz (W : World) (base : Nat) (vf vp vk : Value) (ps : List Value) (x : Sc) : Prop where
  first : Nums W base vf x.first
  progs : W.ownsRow base 42 1 vp x.progs.length ps
  plen : ps.length = x.progs.length
  each : ∀ k (h1 : k < ps.length) (h2 : k < x.progs.length), Irs W base (ps[k]) (x.progs[k])
  picks : Nms32 W base vk x.picks
  wf : ∀ p ∈ x.progs, ∀ i ∈ p, i.wf
  mark : ∃ tag : Nat → Nat, (∀ g, vf.ownBlock = some g → tag g = 1) ∧ (∀ g, vp.ownBlock = some g → tag g = 2) ∧ (∀ g, vk.ownBlock = some g → tag g = 3) ∧ ∀ k (h : k < ps.length) g, (ps[k]).ownBlock = some g → tag g = 4 + k
/-- The blocks of a script's rows. -/
def SzOwn (vf vp vk : Value) (ps : List Value) (q : Nat) : Prop := vf.ownBlock = some q ∨ vp.ownBlock = some q ∨ vk.ownBlock = some q ∨ ∃ v ∈ ps, v.ownBlock = some q
theorem Sz.lies {W : World} {base : Nat} {vf vp vk : Value} {ps : List Value} {x : Sc} (h : Sz W base vf vp vk ps x) {q : Nat} (hq : SzOwn vf vp vk ps q) : q < W.heap.size ∧ base ≤ q ∧ ∃ c t fr, W.heap[q]? = some (.cells c t fr) := by
  rcases hq with e | e | e | ⟨v, hv, e⟩
  · exact ⟨(own_block h.first.own e).1, (own_block h.first.own e).2, own_kind h.first.own e⟩
  · exact ⟨(own_block h.progs e).1, (own_block h.progs e).2, own_kind h.progs e⟩
  · exact ⟨(own_block h.picks.own e).1, (own_block h.picks.own e).2, own_kind h.picks.own e⟩
  · obtain ⟨k, hk, rfl⟩ := List.getElem_of_mem hv
    have q1 := (h.each k hk (by rw [← h.plen]; exact hk)).own
    exact ⟨(own_block q1 e).1, (own_block q1 e).2, own_kind q1 e⟩
theorem Sz.keeps {W W' : World} {S : Nat → Prop} {base : Nat} {vf vp vk : Value} {ps : List Value} {x : Sc} (h : Sz W base vf vp vk ps x) (k : Keeps S W W') (hS : ∀ q, SzOwn vf vp vk ps q → ¬ S q) : Sz W' base vf vp vk ps x :=
  ⟨h.first.keeps k (fun g e => hS g (.inl e)), own_keeps h.progs k (fun g e => hS g (.inr (.inl e))), h.plen, fun j h1 h2 => (h.each j h1 h2).keeps k (fun g e => hS g (.inr (.inr (.inr ⟨_, List.getElem_mem h1, e⟩)))), ⟨own_keeps h.picks.own k (fun g e => hS g (.inr (.inr (.inl e)))), Nat.le_trans h.picks.base k.size⟩, h.wf, h.mark⟩
theorem Sz.at {W : World} {base : Nat} {vf vp vk : Value} {ps : List Value} {x : Sc} (h : Sz W base vf vp vk ps x) (hb : ∀ p ∈ x.progs, p.length * 40 ≤ 140737488355328) : ScAt W vf vp vk x := by
  obtain ⟨a, c, e1, l1, h1⟩ := row_lies h.first.own
  obtain ⟨b, c2, e2, l2, h2⟩ := row_lies h.progs
  obtain ⟨p, q, e3, l3, h3⟩ := row_lies h.picks.own
  refine ⟨⟨a, c, e1, l1, fun k hk => h1 k _ hk (by simp [hk])⟩, ⟨b, c2, e2, l2, fun k hk => ?_⟩, ⟨p, q, e3, l3, fun k hk => h3 k _ hk (by simp [hk])⟩⟩
  have hkp : k < ps.length := by rw [h.plen]; exact hk
  obtain ⟨g, off, e, hc⟩ := h2 k (ps[k]) hk (by simp [hkp])
  exact ⟨g, off, ps[k], e, hc, (h.each k hkp hk).insAt (h.wf _ (List.getElem_mem hk)) (hb _ (List.getElem_mem hk))⟩
theorem Sy.rows {W : World} {base B gx d : Nat} {vf vp vk : Value} {ps : List Value} {x : Sc} (h : Sy W B gx d vf vp vk ps x) (hb : base ≤ B) : Sz W base vf vp vk ps x := by
  obtain ⟨tag, _, t1, t2, t3, t4⟩ := h.mark
  exact ⟨⟨own_mono h.first.own hb, Nat.le_trans hb h.first.base⟩, own_mono h.progs hb, h.plen, fun j h1 h2 => ⟨own_mono (h.each j h1 h2).own hb, Nat.le_trans hb (h.each j h1 h2).base⟩, ⟨own_mono h.picks.own hb, Nat.le_trans hb h.picks.base⟩, h.wf, ⟨tag, t1, t2, t3, t4⟩⟩
theorem Sx.rows {W : World} {base gx : Nat} {vf vp vk : Value} {ps : List Value} {x : Sc} (h : Sx W base gx vf vp vk ps x) : Sz W base vf vp vk ps x := by
  obtain ⟨tag, _, t1, t2, t3, t4⟩ := h.mark
  exact ⟨h.first, h.progs, h.plen, h.each, h.picks, h.wf, ⟨tag, t1, t2, t3, t4⟩⟩

/-- What ParseScript has of the first lines. -/
structure PsI (s : List UInt8) (base : Nat) (w : World) (pre : List (List UInt8)) (W : World) : Prop where
  hpre : pre = (linesL s).take pre.length
  st : ∃ st x vf vp vk ps, foldS 0 sc0 pre = some (st, x) ∧ InvS pre.length st x ∧ Sy W (base + 6) (base + 3) st vf vp vk ps x
  b0 : W.heap[base]? = some (.cells #[.int .i64 0, .slice none 0 0, .slice none 0 0, .slice none 0 0] 26 (0, 0))
  b1 : W.heap[base + 1]? = some (.cells #[.int .i64 0] 3 (0, 0))
  b2 : W.heap[base + 2]? = some (.cells #[.int .i64 0] 30 (0, 0))
  b4 : W.heap[base + 4]? = some (.cells #[.int .i64 (pre.length : Int)] 3 (0, 0))
  kw : Keeps (fun _ => False) w W
  sz : base + 6 ≤ W.heap.size
/-- ParseScript is left: the line is none. -/
structure PsX (s : List UInt8) (base : Nat) (w : World) (W : World) : Prop where
  ex : ∃ n : Nat, readS 0 sc0 0 (linesL s) = (n, none) ∧ W.heap[base + 1]? = some (.cells #[.int .i64 (n : Int)] 3 (0, 0))
  b0 : W.heap[base]? = some (.cells #[.int .i64 0, .slice none 0 0, .slice none 0 0, .slice none 0 0] 26 (0, 0))
  b2 : W.heap[base + 2]? = some (.cells #[.int .i64 190] 30 (0, 0))
  kw : Keeps (fun _ => False) w W
theorem PsX.grown {s : List UInt8} {base : Nat} {w A B : World} {row : Option Nat} {w1 : World} (h : PsX s base w A) (hsz : w1.heap.size = base + 6) (hg : A.grownBy B row) (hr : ∀ r, row = some r → w1.heap.size ≤ r ∧ ∃ o : Obj, A.heap[r]? = some o ∧ o.isCells = false) (hbw : w.heap.size ≤ base + 6) : PsX s base w B := by
  obtain ⟨n, h1, h2⟩ := h.ex
  have hr' := fun q e => (hr q e).2
  exact ⟨⟨n, h1, block_kept h2 hg hr'⟩, block_kept h.b0 hg hr', block_kept h.b2 hg hr', h.kw.grown hg (fun k e => .inl (by have := (hr k e).1; omega))⟩
theorem PsI.grown {s : List UInt8} {base : Nat} {w A B : World} {pre : List (List UInt8)} {row : Option Nat} {w1 : World} (h : PsI s base w pre A) (hsz : w1.heap.size = base + 6) (hg : A.grownBy B row) (hr : ∀ r, row = some r → w1.heap.size ≤ r ∧ ∃ o : Obj, A.heap[r]? = some o ∧ o.isCells = false) (hbw : w.heap.size ≤ base + 6) : PsI s base w pre B := by
  obtain ⟨st, x, vf, vp, vk, ps, h1, h2, h3⟩ := h.st
  have hr' := fun q e => (hr q e).2
  exact ⟨h.hpre, ⟨st, x, vf, vp, vk, ps, h1, h2, h3.grown hg hr'⟩, block_kept h.b0 hg hr', block_kept h.b1 hg hr', block_kept h.b2 hg hr', block_kept h.b4 hg hr', h.kw.grown hg (fun k e => .inl (by have := (hr k e).1; omega)), Nat.le_trans h.sz hg.size⟩
theorem pre_step {s : List UInt8} {pre : List (List UInt8)} {x : List UInt8} (h0 : pre = (linesL s).take pre.length) (hnx : (linesL s)[pre.length]? = some x) : pre ++ [x] = (linesL s).take (pre.length + 1) ∧ linesL s = (pre ++ [x]) ++ (linesL s).drop (pre.length + 1) ∧ x.length ≤ s.length ∧ pre.length < s.length := by
  have hpl : pre.length < (linesL s).length := (List.getElem?_eq_some_iff.1 hnx).1
  have hpx : pre ++ [x] = (linesL s).take (pre.length + 1) := by
    rw [List.take_succ_eq_append_getElem hpl, ← h0]
    rw [List.getElem?_eq_getElem hpl] at hnx
    rw [Option.some.inj hnx]
  have hsplit : linesL s = (pre ++ [x]) ++ (linesL s).drop (pre.length + 1) := by rw [hpx, List.take_append_drop]
  have hfl : x.length ≤ s.length := by
    have := congrArg (fun L => (List.flatten L).length) hsplit
    simp only [List.flatten_append, List.length_append, List.flatten_cons, List.flatten_nil, List.append_nil] at this
    rw [linesL_flat] at this
    omega
  exact ⟨hpx, hsplit, hfl, Nat.lt_of_lt_of_le hpl (linesL_len s)⟩
/-- A line more. -/
theorem PsI.line {s : List UInt8} (hs : s.length ≤ 200000) {base : Nat} {w : World} (hw : Gq w) (hgb : 9 ≤ base) (hbw : base = w.heap.size) {pre : List (List UInt8)} {x : List UInt8} {X : World} (hI : PsI s base w pre X) (hnx : (linesL s)[pre.length]? = some x) :
    X.cell? ⟨base + 4, 0, none⟩ = some (.int .i64 (pre.length : Int)) ∧ Calls Tryz.prog 27 #[.pointer (some ⟨base + 3, 0, none⟩), .string ⟨x.toArray⟩] X fun e X2 => KeepsFrom (base + 6) X X2 ∧
      X2.heap[base]? = some (.cells #[.int .i64 0, .slice none 0 0, .slice none 0 0, .slice none 0 0] 26 (0, 0)) ∧ X2.heap[base + 1]? = some (.cells #[.int .i64 0] 3 (0, 0)) ∧ X2.heap[base + 2]? = some (.cells #[.int .i64 0] 30 (0, 0)) ∧ X2.heap[base + 4]? = some (.cells #[.int .i64 (pre.length : Int)] 3 (0, 0)) ∧ Keeps (fun _ => False) w X2 ∧ pre.length < 200000 ∧
      ((e = .returned (.bool false) ∧ readS 0 sc0 0 (linesL s) = (pre.length, none)) ∨ (e = .returned (.bool true) ∧ PsI s base w (pre ++ [x]) (X2.setCell ⟨base + 4, 0, none⟩ (.int .i64 (pre.length + 1 : Nat))))) := by
  obtain ⟨st, y, vf, vp, vk, ps, h1, h2, h3⟩ := hI.st
  obtain ⟨hpx, hsplit, hxl, hpl⟩ := pre_step hI.hpre hnx
  have hLN := lineS_any x (by omega) X (hw.keeps hI.kw) h3 hI.sz (by omega) h2.le h2.three h2.pk (by have := h2.np; omega) (fun p hp => by have := h2.each p hp; omega)
  refine ⟨cell_of_block hI.b4 0, hLN.mono ?_⟩
  rintro e X2 ⟨hLP, kX⟩
  have hge : ∀ q, SyOwn (base + 3) vp ps q → q = base + 3 ∨ base + 6 ≤ q := fun q hq => SyOwn.ge h3 hq
  have hout : ∀ k, k < base + 3 ∨ k = base + 4 ∨ k = base + 5 → ¬ SyOwn (base + 3) vp ps k := fun k hk e => by have := hge k e; omega
  have g0 := (kX.block _ (lt_of_block hI.b0) (hout _ (by omega))).trans hI.b0
  have g1 := (kX.block _ (lt_of_block hI.b1) (hout _ (by omega))).trans hI.b1
  have g2 := (kX.block _ (lt_of_block hI.b2) (hout _ (by omega))).trans hI.b2
  have g4 := (kX.block _ (lt_of_block hI.b4) (hout _ (by omega))).trans hI.b4
  have kw : Keeps (fun _ => False) w X2 := hI.kw.transB kX (fun q hq e => by have := hge q e; omega)
  refine ⟨⟨kX.size, fun k o hk ho hc => ?_⟩, g0, g1, g2, g4, kw, by omega, ?_⟩
  · refine (kX.block k (lt_of_block ho) (fun e => ?_)).trans ho
    obtain ⟨c, t, fr, q⟩ := SyOwn.kind h3 e
    rw [q] at ho; cases ho; cases hc
  · have hsn := foldS_snoc pre x 0 sc0 st y h1
    unfold LiPost at hLP
    cases hq : (if x.getLast? = some 10 then lineS st y x.dropLast else none) with
    | none =>
      rw [hq] at hLP
      refine .inl ⟨hLP, ?_⟩
      have hrd := foldS_app pre (x :: (linesL s).drop (pre.length + 1)) 0 sc0 0 st y h1
      rw [show pre ++ x :: (linesL s).drop (pre.length + 1) = linesL s from (List.append_cons pre x _).trans hsplit.symm] at hrd
      rw [hrd, readS, Nat.zero_add]
      split at hq
      · rename_i h10
        rw [if_pos h10, hq]
      · rename_i h10
        rw [if_neg h10]
    | some r =>
      obtain ⟨st', y'⟩ := r
      rw [hq] at hLP hsn
      obtain ⟨he, vf', vp', vk', ps', hsy⟩ := hLP
      have ks : Keeps (fun k => k = base + 4) X2 (X2.setCell ⟨base + 4, 0, none⟩ (.int .i64 (pre.length + 1 : Nat))) := (Keeps.refl (fun k => k = base + 4) X2).setCell (p := ⟨base + 4, 0, none⟩) (.inr rfl) _
      have hin : InvS (pre.length + 1) st' y' := by
        split at hq
        · exact h2.step hq
        · cases hq
      refine .inr ⟨he, ⟨by rw [List.length_append]; exact hpx, ⟨st', y', vf', vp', vk', ps', hsn, by rw [List.length_append]; exact hin, hsy.keepsB ks (fun q e => by omega)⟩, ?_, ?_, ?_, ?_, ?_, ?_⟩⟩
      · exact (ks.block _ (lt_of_block g0) (by omega)).trans g0
      · exact (ks.block _ (lt_of_block g1) (by omega)).trans g1
      · exact (ks.block _ (lt_of_block g2) (by omega)).trans g2
      · have := block_set g4 0 (.int .i64 (pre.length + 1 : Nat))
        rw [List.length_append]
        exact this
      · exact kw.transB ks (fun q hq e => by omega)
      · have := kX.size; have := ks.size; have := hI.sz; omega
/-- The three stores with which ParseScript ends. -/
structure Thr (A : World) (base : Nat) (Z : Array Value) (n e : Int) (W1 W2 W3 : World) : Prop where
  e1 : A.setRow base Z = W1
  e2 : W1.setCell ⟨base + 1, 0, none⟩ (.int .i64 n) = W2
  e3 : W2.setCell ⟨base + 2, 0, none⟩ (.int .i64 e) = W3
  c1 : ∃ x, W1.cell? ⟨base + 1, 0, none⟩ = some x
  f1 : W1.frozen? ⟨base + 1, 0, none⟩ = false
  c2 : ∃ x, W2.cell? ⟨base + 2, 0, none⟩ = some x
  f2 : W2.frozen? ⟨base + 2, 0, none⟩ = false
  b0 : W3.heap[base]? = some (.cells Z 26 (0, 0))
  b1 : W3.heap[base + 1]? = some (.cells #[.int .i64 n] 3 (0, 0))
  b2 : W3.heap[base + 2]? = some (.cells #[.int .i64 e] 30 (0, 0))
  k1 : Keeps (fun k => base ≤ k ∧ k ≤ base + 2) A W1
  k2 : Keeps (fun k => base ≤ k ∧ k ≤ base + 2) A W2
  k3 : Keeps (fun k => base ≤ k ∧ k ≤ base + 2) A W3
theorem thr {A : World} {base : Nat} {Y : Array Value} {a b : Int} (g0 : A.heap[base]? = some (.cells Y 26 (0, 0))) (g1 : A.heap[base + 1]? = some (.cells #[.int .i64 a] 3 (0, 0))) (g2 : A.heap[base + 2]? = some (.cells #[.int .i64 b] 30 (0, 0))) (Z : Array Value) (n e : Int) :
    ∃ W1 W2 W3, Thr A base Z n e W1 W2 W3 := by
  have qo : ∀ k, k ≠ base → (A.setRow base Z).heap[k]? = A.heap[k]? := fun k hk => by simp [World.setRow, Array.getElem?_modify, Ne.symm hk]
  have q1 : (A.setRow base Z).heap[base + 1]? = some (.cells #[.int .i64 a] 3 (0, 0)) := (qo _ (by omega)).trans g1
  have q2 : (A.setRow base Z).heap[base + 2]? = some (.cells #[.int .i64 b] 30 (0, 0)) := (qo _ (by omega)).trans g2
  have q2b : ((A.setRow base Z).setCell ⟨base + 1, 0, none⟩ (.int .i64 n)).heap[base + 2]? = some (.cells #[.int .i64 b] 30 (0, 0)) := (Below.heap_setCell _ _ _ _ (by show base + 2 ≠ base + 1; omega)).trans q2
  have k1 : Keeps (fun k => base ≤ k ∧ k ≤ base + 2) A (A.setRow base Z) := ⟨rfl, rfl, rfl, by simp [World.setRow], fun k _ hs => qo k (fun e => hs (by omega))⟩
  have k2 := k1.setCell (p := ⟨base + 1, 0, none⟩) (.inr ⟨by show base ≤ base + 1; omega, by show base + 1 ≤ base + 2; omega⟩) (.int .i64 n)
  have k3 := k2.setCell (p := ⟨base + 2, 0, none⟩) (.inr ⟨by show base ≤ base + 2; omega, Nat.le_refl _⟩) (.int .i64 e)
  refine ⟨_, _, _, rfl, rfl, rfl, ⟨_, cell_of_block q1 0⟩, frozen_of_block q1 0, ⟨_, cell_of_block q2b 0⟩, frozen_of_block q2b 0, ?_, ?_, block_set q2b 0 _, k1, k2, k3⟩
  · exact (Below.heap_setCell _ _ _ _ (by show base ≠ base + 2; omega)).trans ((Below.heap_setCell _ _ _ _ (by show base ≠ base + 1; omega)).trans (setRow_heap _ _ _ _ _ _ g0))
  · exact (Below.heap_setCell _ _ _ _ (by show base + 1 ≠ base + 2; omega)).trans (block_set q1 0 _)
/-- What ParseScript's result cells hold. -/
theorem res_ps {tmps : Array Value} {W : World} {b : Nat} {v0 v1 v2 v3 : Value} {n e : Int} (h2 : tmps[2]? = some (.pointer (some ⟨b, 0, none⟩))) (h3 : tmps[3]? = some (.pointer (some ⟨b + 1, 0, none⟩))) (h4 : tmps[4]? = some (.pointer (some ⟨b + 2, 0, none⟩)))
    (d0 : W.heap[b]? = some (.cells #[v0, v1, v2, v3] 26 (0, 0))) (d1 : W.heap[b + 1]? = some (.cells #[.int .i64 n] 3 (0, 0))) (d2 : W.heap[b + 2]? = some (.cells #[.int .i64 e] 30 (0, 0))) :
    (results Tryz.f11 tmps).run Tryz.prog W = .ok (.tuple #[.agg #[v0, v1, v2, v3], .int .i64 n, .int .i64 e]) W := by
  have c1 : W.cell? ⟨b + 1, 0, none⟩ = some (.int .i64 n) := cell_of_block d1 0
  have c2 : W.cell? ⟨b + 2, 0, none⟩ = some (.int .i64 e) := cell_of_block d2 0
  have a0 : W.cell? ⟨b, 0, none⟩ = some v0 := cell_of_block d0 0
  have a1 : W.cell? ⟨b, 1, none⟩ = some v1 := cell_of_block d0 1
  have a2 : W.cell? ⟨b, 2, none⟩ = some v2 := cell_of_block d0 2
  have a3 : W.cell? ⟨b, 3, none⟩ = some v3 := cell_of_block d0 3
  simp [results, Tryz.f11, go_sem, h2, h3, h4, a0, a1, a2, a3, c1, c2]
/-- What ParseScript answers. -/
def PSPost (s : List UInt8) (w : World) (e : Ending) (w' : World) : Prop := match readS 0 sc0 0 (linesL s) with
  | (n, some x) => ∃ vf vp vk ps, e = .returned (.tuple #[.agg #[.int .i64 (x.cells : Int), vf, vp, vk], .int .i64 (n : Int), .int .i64 0]) ∧ Sz w' w.heap.size vf vp vk ps x
  | (n, none) => e = .returned (.tuple #[.agg #[.int .i64 0, .slice none 0 0, .slice none 0 0, .slice none 0 0], .int .i64 (n : Int), .int .i64 190])
end Go.Proofs.YtppejcfghlpbjaaGreatDoor


/- A script's text, and that it is read as the script: pure facts. No statement of the seat is proved here. -/
namespace Go.Proofs.YtppejcfghlpbjaaGreatDoor
open Go.RowKit Go.Shelf

/-- Numbers, a blank ahead of each. -/
def blk64 (L : List Nat) : List UInt8 := L.flatMap fun n => 32 :: Lib.decDigits n
/-- The lines of a script's text, without their ends. -/
def bodies (x : Sc) : List (List UInt8) :=
  (cellsW ++ blk64 [x.cells]) :: ((if x.first = [] then [] else [firstW ++ blk64 x.first]) ++ (x.progs.flatMap fun p => threadW :: p.map textL) ++ (if x.picks = [] then [] else [picksW ++ blk64 x.picks]))
def scrT (x : Sc) : List UInt8 := (bodies x).flatMap (· ++ [10])
theorem lines_end : ∀ (a r : List UInt8), (10 : UInt8) ∉ a → linesL (a ++ 10 :: r) = (a ++ [10]) :: linesL r := fun a r h => by
  have := linesL_cut (a ++ 10 :: r) a.length (by simp) (fun j hj e => by
    rw [List.getElem_append_left hj] at e
    exact h (e ▸ List.getElem_mem hj)) (by simp)
  rw [this]
  simp [List.take_append]
  exact List.take_of_length_le (by omega)
theorem lines_bodies : ∀ B : List (List UInt8), (∀ b ∈ B, (10 : UInt8) ∉ b) → linesL (B.flatMap (· ++ [10])) = B.map (· ++ [10])
  | [], _ => rfl
  | b :: B, h => by
    rw [List.flatMap_cons, List.map_cons, ← lines_bodies B (fun c hc => h c (by simp [hc]))]
    have := lines_end b (B.flatMap (· ++ [10])) (h b (by simp))
    simpa using this
theorem readS_cons (st : Nat) (x : Sc) (n : Nat) (a : List UInt8) (R : List (List UInt8)) : readS st x n ((a ++ [10]) :: R) = match lineS st x a with
    | none => (n, none)
    | some (st', x') => readS st' x' (n + 1) R := by
  rw [readS, if_pos (by simp), List.dropLast_concat]
  cases lineS st x a <;> rfl
theorem dec_no32 (n : Nat) : (32 : UInt8) ∉ Lib.decDigits n := fun h => by have := dec_mem n 32 h; simp at this
theorem dec_no10 (n : Nat) : (10 : UInt8) ∉ Lib.decDigits n := fun h => by have := dec_mem n 10 h; simp at this
theorem blk64_no10 (L : List Nat) : (10 : UInt8) ∉ blk64 L := fun h => by
  unfold blk64 at h
  obtain ⟨n, _, hn⟩ := List.mem_flatMap.1 h
  rcases List.mem_cons.1 hn with e | e
  · cases e
  · exact dec_no10 n e
theorem nms_no10 : ∀ k : Fin 18, (10 : UInt8) ∉ (nms[k.val]?).getD [] := by decide
theorem blanked_no10 : ∀ (N : List Int), (10 : UInt8) ∉ blanked N
  | [] => by simp [blanked]
  | n :: N => by
    have e : blanked (n :: N) = 32 :: Lib.decDigits n.toNat ++ blanked N := by simp [blanked]
    rw [e]
    intro h
    simp only [List.cons_append, List.mem_cons, List.mem_append] at h
    rcases h with h | h | h
    · cases h
    · exact dec_no10 _ h
    · exact blanked_no10 N h
theorem textL_no10 {i : I5} (hf : formedB i = true) : (10 : UInt8) ∉ textL i := fun h => by
  obtain ⟨⟨h0, h1⟩, -⟩ := formed_facts hf
  unfold textL at h
  rcases List.mem_append.1 h with h | h
  · exact nms_no10 ⟨i.op.toNat, by omega⟩ h
  · exact blanked_no10 _ h
/-- A script that has a text: formed programs, numbers that a line may hold. -/
structure Good (x : Sc) : Prop where
  cells : x.cells ≤ m63
  first : ∀ n ∈ x.first, n ≤ m64
  picks : ∀ n ∈ x.picks, n ≤ m32
  progs : ∀ p ∈ x.progs, p.all formedB = true
  wf : ∀ p ∈ x.progs, ∀ i ∈ p, i.wf
theorem bodies_no10 {x : Sc} (h : Good x) : ∀ b ∈ bodies x, (10 : UInt8) ∉ b := by
  intro b hb
  unfold bodies at hb
  rcases List.mem_cons.1 hb with rfl | hb
  · intro q
    rcases List.mem_append.1 q with q | q
    · revert q; decide
    · exact blk64_no10 _ q
  rcases List.mem_append.1 hb with hb | hb
  · rcases List.mem_append.1 hb with hb | hb
    · split at hb
      · simp at hb
      · simp only [List.mem_singleton] at hb
        subst hb
        intro q
        rcases List.mem_append.1 q with q | q
        · revert q; decide
        · exact blk64_no10 _ q
    · obtain ⟨p, hp, hq⟩ := List.mem_flatMap.1 hb
      rcases List.mem_cons.1 hq with rfl | hq
      · decide
      · obtain ⟨i, hi, rfl⟩ := List.mem_map.1 hq
        exact textL_no10 (List.all_eq_true.1 (h.progs p hp) i hi)
  · split at hb
    · simp at hb
    · simp only [List.mem_singleton] at hb
      subst hb
      intro q
      rcases List.mem_append.1 q with q | q
      · revert q; decide
      · exact blk64_no10 _ q
theorem numM_dec {most n : Nat} (hm : most < 18446744073709551616) (h : n ≤ most) : numM most (Lib.decDigits n) = some n := by
  unfold numM
  rw [decL_back n (by omega), Option.bind_some, if_pos h]
theorem allM_nums {most : Nat} (hm : most < 18446744073709551616) : ∀ (L : List Nat) (n : Nat), n ≤ most → (∀ k ∈ L, k ≤ most) → allM most (pcs (Lib.decDigits n ++ blk64 L)) = some (n :: L)
  | [], n, hn, _ => by
    rw [show blk64 [] = [] from rfl, List.append_nil, pcs_word _ (dec_no32 n), allM, numM_dec hm hn]
    rfl
  | k :: L, n, hn, hL => by
    have e : blk64 (k :: L) = 32 :: (Lib.decDigits k ++ blk64 L) := by simp [blk64]
    rw [e, pcs_blank _ _ (dec_no32 n), allM, numM_dec hm hn, Option.bind_some, allM_nums hm L k (hL k (by simp)) (fun j hj => hL j (by simp [hj]))]
    rfl
theorem cut_nums {word : List UInt8} (hw : (32 : UInt8) ∉ word) (n : Nat) (L : List Nat) : cutA 32 (word ++ blk64 (n :: L)) = (word, Lib.decDigits n ++ blk64 L, true) := by
  have e : blk64 (n :: L) = 32 :: (Lib.decDigits n ++ blk64 L) := by simp [blk64]
  rw [e]
  exact cutA_word hw
theorem thread_not : parseL threadW = none := by decide +kernel
theorem line_text_ins {i : I5} (hf : formedB i = true) (hwf : i.wf) (x : Sc) : lineS 3 x (textL i) = some (3, { x with progs := lastPush x.progs i }) := by
  have hp : parseL (textL i) = some i := parse_text hf hwf.2.2.2.2.1 hwf.2.2.2.2.2
  have hth : textL i ≠ threadW := fun e => by rw [e, thread_not] at hp; cases hp
  have hpk : (cutA 32 (textL i)).1 ≠ picksW := fun e => by rw [parse_picks e] at hp; cases hp
  rw [line_else 3 x _ (by omega) (by omega) hth (by omega) hpk, if_pos rfl, hp]
  rfl
theorem modify_snoc {α : Type} (f : α → α) (q : α) : ∀ P : List α, (P ++ [q]).modify P.length f = P ++ [f q]
  | [] => rfl
  | a :: P => by
    have := modify_snoc f q P
    simp only [List.cons_append, List.length_cons, List.modify_succ_cons, this]
theorem lastPush_snoc (P : List (List I5)) (q : List I5) (i : I5) : lastPush (P ++ [q]) i = P ++ [q ++ [i]] := by
  unfold lastPush
  rw [show (P ++ [q]).length - 1 = P.length by simp]
  exact modify_snoc _ q P
theorem read_prog : ∀ (p : List I5) (x : Sc) (P : List (List I5)) (q : List I5) (n : Nat) (R : List (List UInt8)), p.all formedB = true → (∀ i ∈ p, i.wf) → readS 3 { x with progs := P ++ [q] } n ((p.map textL).map (· ++ [10]) ++ R) = readS 3 { x with progs := P ++ [q ++ p] } (n + p.length) R
  | [], x, P, q, n, R, _, _ => by simp
  | i :: p, x, P, q, n, R, hf, hw => by
    rw [List.all_cons, Bool.and_eq_true] at hf
    rw [List.map_cons, List.map_cons, List.cons_append, readS_cons, line_text_ins hf.1 (hw i (by simp))]
    dsimp only
    rw [lastPush_snoc, read_prog p x P (q ++ [i]) (n + 1) R hf.2 (fun j hj => hw j (by simp [hj]))]
    simp only [List.append_assoc, List.singleton_append, List.length_cons]
    congr 1
    omega
theorem read_progs : ∀ (ps : List (List I5)) (st : Nat) (x : Sc) (P : List (List I5)) (n : Nat) (R : List (List UInt8)), 1 ≤ st → st ≤ 3 → (∀ p ∈ ps, p.all formedB = true) → (∀ p ∈ ps, ∀ i ∈ p, i.wf) → ∃ st' m, 1 ≤ st' ∧ st' ≤ 3 ∧ readS st { x with progs := P } n ((ps.flatMap fun p => threadW :: p.map textL).map (· ++ [10]) ++ R) = readS st' { x with progs := P ++ ps } m R
  | [], st, x, P, n, R, h1, h3, _, _ => ⟨st, n, h1, h3, by simp⟩
  | p :: ps, st, x, P, n, R, h1, h3, hf, hw => by
    obtain ⟨st', m, q1, q3, q⟩ := read_progs ps 3 x (P ++ [p]) (n + 1 + p.length) R (by omega) (by omega) (fun r hr => hf r (by simp [hr])) (fun r hr => hw r (by simp [hr]))
    refine ⟨st', m, q1, q3, ?_⟩
    rw [List.flatMap_cons, List.map_append, List.map_cons, List.append_assoc, List.cons_append, readS_cons, line_thread st _ h1 h3]
    dsimp only
    have hp := read_prog p x P [] (n + 1) ((ps.flatMap fun p => threadW :: p.map textL).map (· ++ [10]) ++ R) (hf p (by simp)) (hw p (by simp))
    rw [List.nil_append] at hp
    rw [hp, q]
    simp
/-- What is written is read. -/
theorem scrT_read {x : Sc} (h : Good x) : ∃ n, readS 0 sc0 0 (linesL (scrT x)) = (n, some x) := by
  obtain ⟨c, f, ps, k⟩ := x
  unfold scrT
  rw [lines_bodies _ (bodies_no10 h)]
  unfold bodies
  dsimp only
  rw [List.map_cons, readS_cons]
  have hc : lineS 0 sc0 (cellsW ++ blk64 [c]) = some (1, ⟨c, [], [], []⟩) := by
    rw [line_cells, cut_nums no_cells]
    dsimp only
    rw [if_pos rfl, show blk64 [] = [] from rfl, List.append_nil, numM_dec (by decide) h.cells]
    rfl
  rw [hc]
  dsimp only
  rw [List.map_append, List.map_append, List.append_assoc]
  have hF : ∃ st m, 1 ≤ st ∧ st ≤ 3 ∧ ∀ R, readS 1 ⟨c, [], [], []⟩ (0 + 1) ((if f = [] then [] else [firstW ++ blk64 f]).map (· ++ [10]) ++ R) = readS st ⟨c, f, [], []⟩ m R := by
    cases f with
    | nil => exact ⟨1, 0 + 1, by omega, by omega, fun R => by simp⟩
    | cons a f =>
      refine ⟨2, 0 + 1 + 1, by omega, by omega, fun R => ?_⟩
      rw [if_neg (by simp), List.map_cons, List.map_nil, List.singleton_append, readS_cons]
      have hcut := cut_nums no_first a f
      have hne : firstW ++ blk64 (a :: f) ≠ threadW := fun e => by
        have := congrArg (cutA 32) e
        rw [hcut, cut_thread] at this
        cases this
      rw [line_first _ _ hne (by rw [hcut]), hcut]
      dsimp only
      rw [allM_nums (by decide) f a (h.first a (by simp)) (fun j hj => h.first j (by simp [hj]))]
      rfl
  obtain ⟨st, m, h1, h3, hF⟩ := hF
  rw [hF]
  obtain ⟨st', m', h1', h3', hP⟩ := read_progs ps st ⟨c, f, [], []⟩ [] m ((if k = [] then [] else [picksW ++ blk64 k]).map (· ++ [10])) h1 h3 h.progs h.wf
  rw [show (⟨c, f, [], []⟩ : Sc) = { (⟨c, f, [], []⟩ : Sc) with progs := [] } from rfl, hP, List.nil_append]
  cases k with
  | nil =>
    refine ⟨m', ?_⟩
    rw [if_pos rfl, List.map_nil, readS, if_neg (by omega)]
  | cons a k =>
    refine ⟨m' + 1, ?_⟩
    rw [if_neg (by simp), List.map_cons, List.map_nil, readS_cons]
    have hcut := cut_nums no_picks a k
    have hne : picksW ++ blk64 (a :: k) ≠ threadW := fun e => by
      have := congrArg (cutA 32) e
      rw [hcut, cut_thread] at this
      cases this
    rw [line_picks st' _ _ h1' h3' hne (by rw [hcut]), hcut]
    dsimp only
    rw [allM_nums (by decide) k a (h.picks a (by simp)) (fun j hj => h.picks j (by simp [hj]))]
    dsimp only [Option.map_some]
    rw [readS, if_neg (by omega), List.nil_append]
end Go.Proofs.YtppejcfghlpbjaaGreatDoor


/- Walk of ParseScript (package asm). No statement of the seat is proved here. -/
namespace Go.Proofs.YtppejcfghlpbjaaGreatDoor
open Go.RowKit Go.Shelf
attribute [local go_sem] Oper.semAt_some

set_option maxRecDepth 100000 in
set_option maxHeartbeats 8000000 in
theorem pscript_any (s : List UInt8) (hs : s.length ≤ 200000) (w : World) (hw : Gq w) (hgs : 9 ≤ w.heap.size) : Calls Tryz.prog 11 #[.string ⟨s.toArray⟩] w fun e w' => PSPost s w e w' ∧ Keeps (fun _ => False) w w' := by
  have hmx : Tryz.prog.follows .mixedOrders = true := by kernel_rfl
  have hgw := hgs
  clear hgs
  have HBAD : Hid (∀ (n : Nat) W, readS 0 sc0 0 (linesL s) = (n, none) → PSPost s w (.returned (.tuple #[.agg #[.int .i64 0, .slice none 0 0, .slice none 0 0, .slice none 0 0], .int .i64 (n : Int), .int .i64 190])) W) := fun n W q => by unfold PSPost; rw [q]
  refine (callsIn_wide (n := 3)).1 ?_
  refine callsIn_of_wp_marks Tryz.func11 rfl trivial ?_ rfl
  simp only [Tryz.ntmps11, List.size_toArray, List.length_cons, List.length_nil, Nat.reduceAdd, Nat.reduceSub, Array.replicate_succ, Array.replicate_zero, List.push_toArray, List.append_toArray, List.nil_append, List.cons_append]
  gi_wp2_with fail
  refine ⟨trivial, (callsIn_wide.2 (lines_any s _)).mono ?_⟩
  rintro e w1 ⟨rfl, hw1⟩
  have hsz : w1.heap.size = w.heap.size + 6 := by rw [hw1]; simp
  have kA : Keeps (fun _ => False) w w1 := by rw [hw1]; exact ((((((Keeps.refl _ w).alloc _).alloc _).alloc _).alloc _).alloc _).alloc _
  have b5 : w1.heap[w.heap.size + 5]? = some (.cells #[.string ⟨s.toArray⟩] 9 (0, 0)) := by rw [hw1]; exact alloc_at (by simp)
  have b4 : w1.heap[w.heap.size + 4]? = some (.cells #[.int .i64 0] 3 (0, 0)) := by rw [hw1]; exact alloc_old (alloc_at (by simp)) _
  have b3 : w1.heap[w.heap.size + 3]? = some (.cells #[.int .i64 0, .slice none 0 0, .slice none 0 0, .slice none 0 0, .int .i64 0] 70 (0, 0)) := by rw [hw1]; exact alloc_old (alloc_old (alloc_at (by simp)) _) _
  have b2 : w1.heap[w.heap.size + 2]? = some (.cells #[.int .i64 0] 30 (0, 0)) := by rw [hw1]; exact alloc_old (alloc_old (alloc_old (alloc_at (by simp)) _) _) _
  have b1 : w1.heap[w.heap.size + 1]? = some (.cells #[.int .i64 0] 3 (0, 0)) := by rw [hw1]; exact alloc_old (alloc_old (alloc_old (alloc_old (alloc_at (by simp)) _) _) _) _
  have b0 : w1.heap[w.heap.size]? = some (.cells #[.int .i64 0, .slice none 0 0, .slice none 0 0, .slice none 0 0] 26 (0, 0)) := by rw [hw1]; exact alloc_old (alloc_old (alloc_old (alloc_old (alloc_old (alloc_at (by simp)) _) _) _) _) _
  obtain ⟨base, hbase⟩ : ∃ base, base = w.heap.size := ⟨_, rfl⟩
  have hI0 : PsI s base w [] w1 := by
    rw [← hbase] at b0 b1 b2 b3 b4 hsz
    refine ⟨by simp, ⟨0, sc0, .slice none 0 0, .slice none 0 0, .slice none 0 0, [], rfl, ⟨by omega, fun q => by omega, fun _ => rfl, by simp [sc0], fun p hp => by simp [sc0] at hp⟩, ⟨b3, ⟨⟨rfl, .inl ⟨rfl, rfl⟩⟩, by omega⟩, ⟨rfl, .inl ⟨rfl, rfl⟩⟩, rfl, fun k h1 _ => by simp at h1, ⟨⟨rfl, .inl ⟨rfl, rfl⟩⟩, by omega⟩, fun p hp => by simp [sc0] at hp, ⟨fun _ => 0, rfl, fun g e => by simp [Value.ownBlock] at e, fun g e => by simp [Value.ownBlock] at e, fun g e => by simp [Value.ownBlock] at e, fun k h1 => by simp at h1⟩⟩⟩, b0, b1, b2, b4, kA, by omega⟩
  gi_wp2_with fail
  rw [← hw1]
  clear hw1 b0 b1 b2 b3 b4 kA
  simp only [Nat.add_assoc, Nat.reduceAdd]
  rw [← hbase] at b5 hsz hgw ⊢
  have HB : Hid (base = w.heap.size) := hbase
  have hbw : w.heap.size ≤ base + 6 := by omega
  clear hbase
  refine' range_next rfl (by omega) (gf := 41) (lb := #[.pointer (some ⟨base + 5, 0, none⟩)]) rfl trivial (enters_of Tryz.func41 (by kernel_rfl) rfl)
    (lines_seq (3 - 1) (by omega) (base + 5) s (by omega) w1 b5) (Below.refl _ _) (fun _ _ => trivial) (fun _ _ _ _ => trivial) (fun _ => rfl)
    (PsI s base w) (fun c _ X => c = .ret ∧ PsX s base w X)
    (fun pre A B row hs hg hr => hs.grown hsz hg hr hbw) (fun c pre A B row hs hg hr => ⟨hs.1, hs.2.grown hsz hg hr hbw⟩) hI0 _ ?assign ?body ?done ?stop
  case assign =>
    intro l x W K hK
    gi_wp2
    exact hK
  case body =>
    rintro l pre x X hI hlen hnx
    obtain ⟨c5, LN⟩ := hI.line hs hw hgw HB.out hnx
    clear hI hI0 b5 HBAD
    gi_wp2_with fail
    refine ⟨trivial, (CallsIn.inRound l (callsIn_wide.2 LN)).mono ?_⟩
    rintro e X2 ⟨kF, g0, g1, g2, g5, kw, hpl, ⟨rfl, hN⟩ | ⟨rfl, hI2⟩⟩
    · obtain ⟨W1, W2, W3, T⟩ := thr (A := X2.drew) g0 g1 g2 #[.int .i64 0, .slice none 0 0, .slice none 0 0, .slice none 0 0] (pre.length : Int) 190
      have S0 : X2.drew.cell? ⟨base + 4, 0, none⟩ = some (.int .i64 (pre.length : Int)) := cell_of_block g5 0
      have no4 : ¬ (base ≤ base + 4 ∧ base + 4 ≤ base + 2) := by omega
      have S1 := T.k1.cell (a := ⟨base + 4, 0, none⟩) no4 S0
      have S2 := T.k2.cell (a := ⟨base + 4, 0, none⟩) no4 S0
      have S3 := T.k3.cell (a := ⟨base + 4, 0, none⟩) no4 S0
      have kd : Keeps (fun k => base ≤ k ∧ k ≤ base + 2) X2 W3 := ((Keeps.refl _ _).drew).trans T.k3
      have hEnd : Hid (KeepsFrom w1.heap.size X W3 ∧ PsX s base w W3) := by
        refine ⟨?_, ⟨pre.length, hN, T.b1⟩, T.b0, T.b2, kw.transB kd (fun q hq e => by have := HB.out; omega)⟩
        rw [hsz]
        exact kF.trans ⟨kd.size, fun k o hk ho _ => (kd.block k (lt_of_block ho) (by omega)).trans ho⟩
      have HG0 : Hid (X2.drew.heap[base]? = some (.cells #[.int .i64 0, .slice none 0 0, .slice none 0 0, .slice none 0 0] 26 (0, 0))) := g0
      obtain ⟨t1, t2, t3, ⟨tx1, t4⟩, t5, ⟨tx2, t6⟩, t7, -⟩ := T
      have HT1 : Hid (X2.drew.setRow base #[.int .i64 0, .slice none 0 0, .slice none 0 0, .slice none 0 0] = W1) := t1
      have HT2 : Hid (W1.setCell ⟨base + 1, 0, none⟩ (.int .i64 (pre.length : Int)) = W2) := t2
      have HT3 : Hid (W2.setCell ⟨base + 2, 0, none⟩ (.int .i64 190) = W3) := t3
      clear LN g0 g1 g2 g5 kw kF hN t1 t2 t3 kd no4
      gi_wp2_with fail
      refine wpIn_round_held (S := fun W => W.cell? ⟨base + 4, 0, none⟩ = some (.int .i64 (pre.length : Int))) 5 rfl hmx (by kernel_rfl) ?_
      simp only [Array.replicate_succ, Array.replicate_zero, List.push_toArray, List.nil_append, List.cons_append]
      refine held_take (i := 0) (v := .agg #[.int .i64 0, .slice none 0 0, .slice none 0 0, .slice none 0 0]) 15 rfl rfl (by kernel_rfl) (by kernel_rfl) (by kernel_rfl) rfl (fun w' hw' => by go_simp) S0 ?_
      simp only [Act.put, List.setIfInBounds_toArray, List.set_cons_zero, List.set_cons_succ]
      refine held_take (i := 1) (v := .int .i64 (pre.length : Int)) 16 rfl rfl (by kernel_rfl) (by kernel_rfl) (by kernel_rfl) rfl (fun w' hw' => by go_simp) S0 ?_
      simp only [Act.put, List.setIfInBounds_toArray, List.set_cons_zero, List.set_cons_succ]
      refine held_none (i := 2) (w' := W1) (by kernel_rfl) rfl rfl rfl (by rw [← HT1.out]; exact run_store_op rfl base _ rfl rfl 26 _ HG0.out (by kernel_rfl) rfl (by kernel_rfl)) S1 ?_
      refine held_none (i := 3) (w' := W2) (by kernel_rfl) rfl rfl rfl (by rw [← HT2.out]; go_simp) S2 ?_
      refine held_none (i := 4) (w' := W3) (by kernel_rfl) rfl rfl rfl (by rw [← HT3.out]; go_simp) S3 ?_
      refine held_end (by kernel_rfl) ?_ _
      gi_wp2_with fail
      exact ⟨hEnd.out.1, rfl, hEnd.out.2⟩
    · have d5 : X2.cell? ⟨base + 4, 0, none⟩ = some (.int .i64 (pre.length : Int)) := cell_of_block g5 0
      have f5 : X2.frozen? ⟨base + 4, 0, none⟩ = false := frozen_of_block g5 0
      have hpi : (pre.length : Int) < 200000 := by omega
      clear LN
      gi_wp2_with fail
      refine ⟨?_, trivial, ?_⟩
      · rw [hsz]
        exact kF.trans ⟨by simp, fun k o hk ho _ => (Below.heap_setCell _ _ _ _ (by show k ≠ base + 4; omega)).trans ho⟩
      · rw [show ((pre.length : Int) + 1) = ((pre.length + 1 : Nat) : Int) by omega]
        exact hI2
  case stop =>
    rintro c pre X _ ⟨rfl, ⟨⟨n, hN, g1⟩, g0, g2, kw⟩⟩ hK
    have hlt := lt_of_block hK
    rw [hsz] at hK hlt ⊢
    have kp : Keeps (fun k => k = base + 6) X (X.putObj (base + 6) (.deferred none)) := ⟨rfl, rfl, rfl, by simp [World.putObj], fun k _ hs => World.putObj_heap_other (fun e => hs e)⟩
    have d0 := (kp.block _ (lt_of_block g0) (by omega)).trans g0
    have d1 := (kp.block _ (lt_of_block g1) (by omega)).trans g1
    have d2 := (kp.block _ (lt_of_block g2) (by omega)).trans g2
    have kk := kw.transB kp (fun q hq e => by have := HB.out; omega)
    have hpost := HBAD.out n (X.putObj (base + 6) (.deferred none)) hN
    clear HBAD
    gi_wp2
    refine ⟨by simp, .inl ⟨_, _, rfl, run_takeDeferred hK, ?_⟩⟩
    exact ⟨_, res_ps rfl rfl rfl d0 d1 d2, hpost, kk⟩
  case done =>
    rintro xs X rfl hIX hK
    obtain ⟨h0, ⟨st, x, vf, vp, vk, ps, h1, h2, h3⟩, g0, g1, g2, g4, kw, h9⟩ := hIX
    rw [hsz] at hK ⊢
    have hrd : readS 0 sc0 0 (linesL s) = readS st x (linesL s).length [] := by
      have := foldS_app (linesL s) [] 0 sc0 0 st x h1
      rwa [List.append_nil, Nat.zero_add] at this
    have cd : X.cell? ⟨base + 3, 4, none⟩ = some (.int .i64 (st : Int)) := by rw [cell_of_block h3.box]; rfl
    have hst := h2.le
    obtain ⟨n, hn⟩ : ∃ n, n = (linesL s).length := ⟨_, rfl⟩
    rw [← hn] at hrd g4
    by_cases hst0 : st = 0
    · subst hst0
      rw [readS, if_pos rfl] at hrd
      obtain ⟨W1, W2, W3, T⟩ := thr (A := X.drew) g0 g1 g2 #[.int .i64 0, .slice none 0 0, .slice none 0 0, .slice none 0 0] (n : Int) 190
      have S0 : X.drew.cell? ⟨base + 4, 0, none⟩ = some (.int .i64 (n : Int)) := cell_of_block g4 0
      have no4 : ¬ (base ≤ base + 4 ∧ base + 4 ≤ base + 2) := by omega
      have S1 := T.k1.cell (a := ⟨base + 4, 0, none⟩) no4 S0
      have S2 := T.k2.cell (a := ⟨base + 4, 0, none⟩) no4 S0
      have S3 := T.k3.cell (a := ⟨base + 4, 0, none⟩) no4 S0
      have kd : Keeps (fun k => base ≤ k ∧ k ≤ base + 2) X W3 := ((Keeps.refl _ _).drew).trans T.k3
      have HD : Hid (W3.heap[base + 6]? = some (.deferred (some []))) := (kd.block _ (lt_of_block hK) (by omega)).trans hK
      have kp : Keeps (fun k => k = base + 6) W3 (W3.putObj (base + 6) (.deferred none)) := ⟨rfl, rfl, rfl, by simp [World.putObj], fun k _ hs => World.putObj_heap_other (fun e => hs e)⟩
      have HFin : Hid ((W3.putObj (base + 6) (.deferred none)).heap[base]? = some (.cells #[.int .i64 0, .slice none 0 0, .slice none 0 0, .slice none 0 0] 26 (0, 0)) ∧ (W3.putObj (base + 6) (.deferred none)).heap[base + 1]? = some (.cells #[.int .i64 (n : Int)] 3 (0, 0)) ∧ (W3.putObj (base + 6) (.deferred none)).heap[base + 2]? = some (.cells #[.int .i64 190] 30 (0, 0)) ∧ Keeps (fun _ => False) w (W3.putObj (base + 6) (.deferred none))) :=
        ⟨(kp.block _ (lt_of_block T.b0) (by omega)).trans T.b0, (kp.block _ (lt_of_block T.b1) (by omega)).trans T.b1, (kp.block _ (lt_of_block T.b2) (by omega)).trans T.b2, (kw.transB kd (fun q hq e => by have := HB.out; omega)).transB kp (fun q hq e => by have := HB.out; omega)⟩
      have HPost : Hid (PSPost s w (.returned (.tuple #[.agg #[.int .i64 0, .slice none 0 0, .slice none 0 0, .slice none 0 0], .int .i64 (n : Int), .int .i64 190])) (W3.putObj (base + 6) (.deferred none))) := HBAD.out n _ hrd
      have HG0 : Hid (X.drew.heap[base]? = some (.cells #[.int .i64 0, .slice none 0 0, .slice none 0 0, .slice none 0 0] 26 (0, 0))) := g0
      obtain ⟨t1, t2, t3, ⟨tx1, t4⟩, t5, ⟨tx2, t6⟩, t7, -⟩ := T
      have HT1 : Hid (X.drew.setRow base #[.int .i64 0, .slice none 0 0, .slice none 0 0, .slice none 0 0] = W1) := t1
      have HT2 : Hid (W1.setCell ⟨base + 1, 0, none⟩ (.int .i64 (n : Int)) = W2) := t2
      have HT3 : Hid (W2.setCell ⟨base + 2, 0, none⟩ (.int .i64 190) = W3) := t3
      clear HBAD h0 h1 h2 h3 g0 g1 g2 g4 kw h9 hK hI0 b5 hrd hn kd kp t1 t2 t3 no4
      gi_wp2_with fail
      refine wpIn_wide.2 ?_
      refine wp_held_end (S := fun W => W.cell? ⟨base + 4, 0, none⟩ = some (.int .i64 (n : Int))) 5 rfl hmx ?_
      simp only [Array.replicate_succ, Array.replicate_zero, List.push_toArray, List.nil_append, List.cons_append]
      refine held_take (i := 0) (v := .agg #[.int .i64 0, .slice none 0 0, .slice none 0 0, .slice none 0 0]) 22 rfl rfl (by kernel_rfl) (by kernel_rfl) (by kernel_rfl) rfl (fun w' hw' => by go_simp) S0 ?_
      simp only [Act.put, List.setIfInBounds_toArray, List.set_cons_zero, List.set_cons_succ]
      refine held_take (i := 1) (v := .int .i64 (n : Int)) 23 rfl rfl (by kernel_rfl) (by kernel_rfl) (by kernel_rfl) rfl (fun w' hw' => by go_simp) S0 ?_
      simp only [Act.put, List.setIfInBounds_toArray, List.set_cons_zero, List.set_cons_succ]
      refine held_none (i := 2) (w' := W1) (by kernel_rfl) rfl rfl rfl (by rw [← HT1.out]; exact run_store_op rfl base _ rfl rfl 26 _ HG0.out (by kernel_rfl) rfl (by kernel_rfl)) S1 ?_
      refine held_none (i := 3) (w' := W2) (by kernel_rfl) rfl rfl rfl (by rw [← HT2.out]; go_simp) S2 ?_
      refine held_none (i := 4) (w' := W3) (by kernel_rfl) rfl rfl rfl (by rw [← HT3.out]; go_simp) S3 ?_
      refine held_end (by kernel_rfl) ?_ _
      gi_wp2_with fail
      obtain ⟨d0, d1, d2, kk⟩ := HFin.out
      refine ⟨by simp, .inl ⟨_, _, rfl, run_takeDeferred HD.out, ?_⟩⟩
      exact ⟨_, res_ps rfl rfl rfl d0 d1 d2, HPost.out, kk⟩
    · rw [readS, if_neg hst0] at hrd
      have hstb : ((st : Int) == 0) = false := by simp; omega
      obtain ⟨W1, W2, W3, T⟩ := thr (A := X.drew) g0 g1 g2 #[.int .i64 (x.cells : Int), vf, vp, vk] (n : Int) 0
      have kd : Keeps (fun k => base ≤ k ∧ k ≤ base + 2) X W3 := ((Keeps.refl _ _).drew).trans T.k3
      have HD : Hid (W3.heap[base + 6]? = some (.deferred (some []))) := (kd.block _ (lt_of_block hK) (by omega)).trans hK
      have kp : Keeps (fun k => k = base + 6) W3 (W3.putObj (base + 6) (.deferred none)) := ⟨rfl, rfl, rfl, by simp [World.putObj], fun k _ hs => World.putObj_heap_other (fun e => hs e)⟩
      have kdp : Keeps (fun k => (base ≤ k ∧ k ≤ base + 2) ∨ k = base + 6) X (W3.putObj (base + 6) (.deferred none)) := (kd.mono (fun _ _ e => .inl e)).trans (kp.mono (fun _ _ e => .inr e))
      have HFin : Hid ((W3.putObj (base + 6) (.deferred none)).heap[base]? = some (.cells #[.int .i64 (x.cells : Int), vf, vp, vk] 26 (0, 0)) ∧ (W3.putObj (base + 6) (.deferred none)).heap[base + 1]? = some (.cells #[.int .i64 (n : Int)] 3 (0, 0)) ∧ (W3.putObj (base + 6) (.deferred none)).heap[base + 2]? = some (.cells #[.int .i64 0] 30 (0, 0)) ∧ Keeps (fun _ => False) w (W3.putObj (base + 6) (.deferred none))) :=
        ⟨(kp.block _ (lt_of_block T.b0) (by omega)).trans T.b0, (kp.block _ (lt_of_block T.b1) (by omega)).trans T.b1, (kp.block _ (lt_of_block T.b2) (by omega)).trans T.b2, kw.transB kdp (fun q hq e => by have := HB.out; omega)⟩
      have hrows := h3.rows (base := w.heap.size) (by have := HB.out; omega)
      have hrB := h3.rows (base := base + 6) (Nat.le_refl _)
      have HPost : Hid (PSPost s w (.returned (.tuple #[.agg #[.int .i64 (x.cells : Int), vf, vp, vk], .int .i64 (n : Int), .int .i64 0])) (W3.putObj (base + 6) (.deferred none))) := by
        unfold Hid PSPost
        rw [hrd]
        refine ⟨vf, vp, vk, ps, rfl, hrows.keeps kdp (fun q hq e => ?_)⟩
        obtain ⟨_, q2, c, t, fr, q3⟩ := hrB.lies hq
        rcases e with e | e
        · omega
        · rw [e, hK] at q3; cases q3
      have b40 : X.cell? ⟨base + 3, 0, none⟩ = some (.int .i64 (x.cells : Int)) := by rw [cell_of_block h3.box]; rfl
      have b41 : X.cell? ⟨base + 3, 1, none⟩ = some vf := by rw [cell_of_block h3.box]; rfl
      have b42 : X.cell? ⟨base + 3, 2, none⟩ = some vp := by rw [cell_of_block h3.box]; rfl
      have b43 : X.cell? ⟨base + 3, 3, none⟩ = some vk := by rw [cell_of_block h3.box]; rfl
      have b50 : X.cell? ⟨base + 4, 0, none⟩ = some (.int .i64 (n : Int)) := cell_of_block g4 0
      have SW : ∀ W, Keeps (fun k => base ≤ k ∧ k ≤ base + 2) X W → (fun W : World => W.cell? ⟨base + 3, 0, none⟩ = some (.int .i64 (x.cells : Int)) ∧ W.cell? ⟨base + 3, 1, none⟩ = some vf ∧ W.cell? ⟨base + 3, 2, none⟩ = some vp ∧ W.cell? ⟨base + 3, 3, none⟩ = some vk ∧ W.cell? ⟨base + 4, 0, none⟩ = some (.int .i64 (n : Int))) W := fun W k =>
        ⟨k.cell (fun e => by have : base + 3 ≤ base + 2 := e.2; omega) b40, k.cell (fun e => by have : base + 3 ≤ base + 2 := e.2; omega) b41, k.cell (fun e => by have : base + 3 ≤ base + 2 := e.2; omega) b42, k.cell (fun e => by have : base + 3 ≤ base + 2 := e.2; omega) b43, k.cell (fun e => by have : base + 4 ≤ base + 2 := e.2; omega) b50⟩
      have s0 := SW X.drew ((Keeps.refl _ X).drew)
      have s1 := SW W1 (((Keeps.refl _ X).drew).trans T.k1)
      have s2 := SW W2 (((Keeps.refl _ X).drew).trans T.k2)
      have s3 := SW W3 kd
      have HG0 : Hid (X.drew.heap[base]? = some (.cells #[.int .i64 0, .slice none 0 0, .slice none 0 0, .slice none 0 0] 26 (0, 0))) := g0
      obtain ⟨fb, fn, fc, hvff⟩ := own_form h3.first.own
      obtain ⟨pb, pn, pc, hvpf⟩ := own_form h3.progs
      obtain ⟨qb, qn, qc, hvkf⟩ := own_form h3.picks.own
      obtain ⟨t1, t2, t3, ⟨tx1, t4⟩, t5, ⟨tx2, t6⟩, t7, -⟩ := T
      have HT1 : Hid (X.drew.setRow base #[.int .i64 (x.cells : Int), vf, vp, vk] = W1) := t1
      have HT2 : Hid (W1.setCell ⟨base + 1, 0, none⟩ (.int .i64 (n : Int)) = W2) := t2
      have HT3 : Hid (W2.setCell ⟨base + 2, 0, none⟩ (.int .i64 0) = W3) := t3
      have h1c : (#[.int .i64 (x.cells : Int), vf, vp, vk] : Array Value).all (·.oneCell') = true := by rw [hvff, hvpf, hvkf]; simp [Value.oneCell']
      clear HBAD h0 h1 h2 h3 g0 g1 g2 g4 kw h9 hK hI0 b5 hrd hn kd kp kdp t1 t2 t3 SW hrows hrB b40 b41 b42 b43 b50 hvff hvpf hvkf hst0
      gi_wp2_with fail
      refine wpIn_wide.2 ?_
      refine wp_held_end (S := (fun W : World => W.cell? ⟨base + 3, 0, none⟩ = some (.int .i64 (x.cells : Int)) ∧ W.cell? ⟨base + 3, 1, none⟩ = some vf ∧ W.cell? ⟨base + 3, 2, none⟩ = some vp ∧ W.cell? ⟨base + 3, 3, none⟩ = some vk ∧ W.cell? ⟨base + 4, 0, none⟩ = some (.int .i64 (n : Int)))) 6 rfl hmx ?_
      simp only [Array.replicate_succ, Array.replicate_zero, List.push_toArray, List.nil_append, List.cons_append]
      refine held_take (i := 0) (v := .pointer (some ⟨base + 3, 0, none⟩)) 24 rfl rfl (by kernel_rfl) (by kernel_rfl) (by kernel_rfl) rfl (fun w' hw' => by obtain ⟨q0, q1, q2, q3, q4⟩ := hw'; go_simp) s0 ?_
      simp only [Act.put, List.setIfInBounds_toArray, List.set_cons_zero, List.set_cons_succ]
      refine held_take (i := 1) (v := .agg #[.int .i64 (x.cells : Int), vf, vp, vk]) 25 rfl rfl (by kernel_rfl) (by kernel_rfl) (by kernel_rfl) rfl (fun w' hw' => by obtain ⟨q0, q1, q2, q3, q4⟩ := hw'; go_simp) s0 ?_
      simp only [Act.put, List.setIfInBounds_toArray, List.set_cons_zero, List.set_cons_succ]
      refine held_take (i := 2) (v := .int .i64 (n : Int)) 26 rfl rfl (by kernel_rfl) (by kernel_rfl) (by kernel_rfl) rfl (fun w' hw' => by obtain ⟨q0, q1, q2, q3, q4⟩ := hw'; go_simp) s0 ?_
      simp only [Act.put, List.setIfInBounds_toArray, List.set_cons_zero, List.set_cons_succ]
      refine held_none (i := 3) (w' := W1) (by kernel_rfl) rfl rfl rfl (by rw [← HT1.out]; exact run_store_op rfl base _ rfl rfl 26 _ HG0.out (by kernel_rfl) rfl h1c) s1 ?_
      refine held_none (i := 4) (w' := W2) (by kernel_rfl) rfl rfl rfl (by rw [← HT2.out]; go_simp) s2 ?_
      refine held_none (i := 5) (w' := W3) (by kernel_rfl) rfl rfl rfl (by rw [← HT3.out]; go_simp) s3 ?_
      refine held_end (by kernel_rfl) ?_ _
      gi_wp2_with fail
      obtain ⟨d0, d1, d2, kk⟩ := HFin.out
      refine ⟨by simp, .inl ⟨_, _, rfl, run_takeDeferred HD.out, ?_⟩⟩
      exact ⟨_, res_ps rfl rfl rfl d0 d1 d2, HPost.out, kk⟩
end Go.Proofs.YtppejcfghlpbjaaGreatDoor


/- The answers of ParseScript and of the document's ReadScript in one form; a script that is written over. No statement of the seat is proved here. -/
namespace Go.Proofs.YtppejcfghlpbjaaGreatDoor
open Go.RowKit Go.Shelf

theorem lineS_len {n st st' : Nat} {x x' : Sc} {s : List UInt8} {M : Nat} (h : lineS st x s = some (st', x')) (hi : InvS n st x) (hs : s.length ≤ M) (hf : x.first.length ≤ M) (hp : x.picks.length ≤ M) : x'.first.length ≤ M ∧ x'.picks.length ≤ M := by
  unfold lineS at h
  split at h
  · obtain ⟨rfl, rfl⟩ := Prod.mk.inj (Option.some.inj h)
    exact ⟨hf, hp⟩
  · split at h
    · rename_i L hL
      split at hL
      · obtain ⟨rfl, rfl⟩ := Prod.mk.inj (Option.some.inj h)
        exact ⟨Nat.le_trans (wordsM_len hL) hs, hp⟩
      · cases hL
    · split at h
      · obtain ⟨rfl, rfl⟩ := Prod.mk.inj (Option.some.inj h)
        exact ⟨hf, hp⟩
      · split at h
        · rename_i L hL
          split at hL
          · rename_i h3
            obtain ⟨rfl, rfl⟩ := Prod.mk.inj (Option.some.inj h)
            refine ⟨hf, ?_⟩
            rw [hi.pk h3.2, List.nil_append]
            exact Nat.le_trans (wordsM_len hL) hs
          · cases hL
        · split at h
          · rw [Option.map_eq_some_iff] at h
            obtain ⟨i, _, e⟩ := h
            obtain ⟨rfl, rfl⟩ := Prod.mk.inj e
            exact ⟨hf, hp⟩
          · cases h
/-- What a script that was read has room for. -/
structure Bnd (M n : Nat) (x : Sc) : Prop where
  first : x.first.length ≤ M
  picks : x.picks.length ≤ M
  progs : x.progs.length ≤ n
  each : ∀ p ∈ x.progs, p.length ≤ n
theorem readS_bnd (M : Nat) : ∀ (L : List (List UInt8)) (st : Nat) (x : Sc) (n m : Nat) (o : Option Sc), (∀ l ∈ L, l.length ≤ M) → InvS n st x → x.first.length ≤ M → x.picks.length ≤ M → readS st x n L = (m, o) → m ≤ n + L.length ∧ ∀ y, o = some y → Bnd M (n + L.length) y
  | [], st, x, n, m, o, hL, hi, hf, hp, h => by
    rw [readS] at h
    split at h
    · obtain ⟨rfl, rfl⟩ := Prod.mk.inj h
      exact ⟨by simp, fun y hy => by cases hy⟩
    · obtain ⟨rfl, rfl⟩ := Prod.mk.inj h
      exact ⟨by simp, fun y hy => by cases hy; exact ⟨hf, hp, hi.np, hi.each⟩⟩
  | l :: L, st, x, n, m, o, hL, hi, hf, hp, h => by
    rw [readS] at h
    split at h
    · cases hl : lineS st x l.dropLast with
      | none =>
        rw [hl] at h
        obtain ⟨rfl, rfl⟩ := Prod.mk.inj h
        exact ⟨by simp <;> omega, fun y hy => by cases hy⟩
      | some r =>
        obtain ⟨st', x'⟩ := r
        rw [hl] at h
        have hd : l.dropLast.length ≤ M := by have := hL l (by simp); simp; omega
        obtain ⟨q1, q2⟩ := lineS_len hl hi hd hf hp
        obtain ⟨r1, r2⟩ := readS_bnd M L st' x' (n + 1) m o (fun k hk => hL k (by simp [hk])) (hi.step hl) q1 q2 h
        refine ⟨by simp <;> omega, fun y hy => ?_⟩
        have := r2 y hy
        rw [List.length_cons, show n + (L.length + 1) = n + 1 + L.length by omega]
        exact this
    · obtain ⟨rfl, rfl⟩ := Prod.mk.inj h
      exact ⟨by simp <;> omega, fun y hy => by cases hy⟩
/-- The script and the number of lines of a text, the refusal's answer where there is none. -/
def scX (s : List UInt8) : Sc := ((readS 0 sc0 0 (linesL s)).2).getD sc0
def scN (s : List UInt8) : Nat := (readS 0 sc0 0 (linesL s)).1
def scB (s : List UInt8) : Bool := ((readS 0 sc0 0 (linesL s)).2).isSome
theorem line_le {s : List UInt8} : ∀ l ∈ linesL s, l.length ≤ s.length := fun l hl => by
  have h := linesL_flat s
  obtain ⟨a, b, e⟩ := List.append_of_mem hl
  have := congrArg List.length h
  rw [e] at this
  simp at this
  omega
theorem scX_bnd (s : List UInt8) (hs : s.length ≤ 20000) : Bnd 20000 20000 (scX s) ∧ scN s ≤ 20000 := by
  have hll := linesL_len s
  have hb := readS_bnd 20000 (linesL s) 0 sc0 0 (scN s) ((readS 0 sc0 0 (linesL s)).2) (fun l hl => by have := line_le l hl; omega) ⟨by omega, fun q => by omega, fun _ => rfl, by simp [sc0], fun p hp => by simp [sc0] at hp⟩ (by simp [sc0]) (by simp [sc0]) rfl
  refine ⟨?_, by omega⟩
  unfold scX
  cases hq : (readS 0 sc0 0 (linesL s)).2 with
  | none => exact ⟨by simp [sc0], by simp [sc0], by simp [sc0], fun p hp => by simp [sc0] at hp⟩
  | some y =>
    have := hb.2 y hq
    exact ⟨this.first, this.picks, Nat.le_trans this.progs (by omega), fun p hp => Nat.le_trans (this.each p hp) (by omega)⟩
theorem Sz.none (w : World) (base : Nat) (hb : base ≤ w.heap.size) : Sz w base (.slice none 0 0) (.slice none 0 0) (.slice none 0 0) [] sc0 :=
  ⟨⟨⟨rfl, .inl ⟨rfl, rfl⟩⟩, hb⟩, ⟨rfl, .inl ⟨rfl, rfl⟩⟩, rfl, fun k h1 _ => by simp at h1, ⟨⟨rfl, .inl ⟨rfl, rfl⟩⟩, hb⟩, fun p hp => by simp [sc0] at hp, ⟨fun _ => 0, fun g e => by simp [Value.ownBlock] at e, fun g e => by simp [Value.ownBlock] at e, fun g e => by simp [Value.ownBlock] at e, fun k h1 => by simp at h1⟩⟩
theorem ps_one {s : List UInt8} {w w' : World} {e : Ending} (h : PSPost s w e w') (k : Keeps (fun _ => False) w w') : ∃ vf vp vk ps, e = .returned (.tuple #[.agg #[.int .i64 ((scX s).cells : Int), vf, vp, vk], .int .i64 (scN s : Int), .int .i64 (if scB s = true then 0 else 190)]) ∧ Sz w' w.heap.size vf vp vk ps (scX s) := by
  unfold PSPost at h
  unfold scX scN scB
  rcases hq : readS 0 sc0 0 (linesL s) with ⟨n, _ | x⟩
  · rw [hq] at h
    exact ⟨_, _, _, [], h, Sz.none w' _ k.size⟩
  · rw [hq] at h
    obtain ⟨vf, vp, vk, ps, h1, h2⟩ := h
    exact ⟨vf, vp, vk, ps, h1, h2⟩
theorem rs_one {s : List UInt8} {w w' : World} {e : Ending} (h : RSPost s w e w') (k : Keeps (fun _ => False) w w') : ∃ vf vp vk ps, e = .returned (.tuple #[.agg #[.int .i64 ((scX s).cells : Int), vf, vp, vk], .int .i64 (scN s : Int), .bool (scB s)]) ∧ Sz w' w.heap.size vf vp vk ps (scX s) := by
  unfold RSPost at h
  unfold scX scN scB
  rcases hq : readS 0 sc0 0 (linesL s) with ⟨n, _ | x⟩
  · rw [hq] at h
    exact ⟨_, _, _, [], h, Sz.none w' _ k.size⟩
  · rw [hq] at h
    obtain ⟨gx, vf, vp, vk, ps, h1, h2⟩ := h
    exact ⟨vf, vp, vk, ps, h1, h2.rows⟩
theorem Sz.forms {W : World} {base : Nat} {vf vp vk : Value} {ps : List Value} {x : Sc} (h : Sz W base vf vp vk ps x) : (∃ a c, vf = .slice a x.first.length c) ∧ (∃ a c, vp = .slice a x.progs.length c) ∧ ∃ a c, vk = .slice a x.picks.length c := by
  obtain ⟨a, c, e1, _⟩ := row_lies h.first.own
  obtain ⟨b, d, e2, _⟩ := row_lies h.progs
  obtain ⟨p, q, e3, _⟩ := row_lies h.picks.own
  exact ⟨⟨a, c, e1⟩, ⟨b, d, e2⟩, ⟨p, q, e3⟩⟩

theorem There.keeps {w w' : World} {S : Nat → Prop} {v : Value} {n : Nat} {ty : TypeId} {sz : Nat} (h : There w v n ty sz) (k : Keeps S w w') (hs : ∀ g, v.ownBlock = some g → ¬ S g) : There w' v n ty sz := by
  rcases h with h | ⟨g, cap, cur, rfl, h2, h3, h4⟩
  · exact .inl h
  · exact .inr ⟨g, cap, cur, rfl, h2, (k.block g (lt_of_block h3) (hs g rfl)).trans h3, h4⟩
/-- A script of the call's own while it is written over: its programs up to number i are gone. -/
structure Spl (A : World) (a b gX : Nat) (vf vp vk : Value) (ps : List Value) (x : Sc) (i : Nat) (W : World) : Prop where
  box : W.heap[gX]? = some (.cells #[.int .i64 (x.cells : Int), vf, vp, vk] 26 (0, 0))
  out : b ≤ gX
  kp : Keeps (fun q => a ≤ q ∧ q < b) A W
  rng : ∀ q, SzOwn vf vp vk ps q → a ≤ q ∧ q < b
  plen : ps.length = x.progs.length
  first : There W vf x.first.length 40 1
  picks : There W vk x.picks.length 41 1
  progs : There W vp x.progs.length 42 1
  cell : ∀ k (hk : k < ps.length), i ≤ k → ∀ g, vp.ownBlock = some g → W.cell? ⟨g, k, none⟩ = some (ps[k])
  each : ∀ k (hk : k < ps.length) (hx : k < x.progs.length), i ≤ k → There W (ps[k]) (x.progs[k]).length 45 5
  form : ∀ k (hk : k < ps.length) (hx : k < x.progs.length), ∃ u c, ps[k] = .slice u (x.progs[k]).length c
  mark : ∃ tag : Nat → Nat, (∀ g, vf.ownBlock = some g → tag g = 1) ∧ (∀ g, vp.ownBlock = some g → tag g = 2) ∧ (∀ g, vk.ownBlock = some g → tag g = 3) ∧ ∀ k (h : k < ps.length) g, (ps[k]).ownBlock = some g → tag g = 4 + k
theorem There.one {W : World} {v : Value} {n : Nat} {ty : TypeId} (h : There W v n ty 1) {k : Nat} (hk : k < n) : ∃ g cap c, v = .slice (some ⟨g, 0, none⟩) n cap ∧ v.ownBlock = some g ∧ n ≤ cap ∧ W.cell? ⟨g, k, none⟩ = some c ∧ W.frozen? ⟨g, k, none⟩ = false ∧ ∀ u, There (W.setCell ⟨g, k, none⟩ u) v n ty 1 := by
  rcases h with h | ⟨g, cap, cur, rfl, h2, h3, h4⟩
  · omega
  · have hlt : k < cur.size := by omega
    exact ⟨g, cap, cur[k], rfl, rfl, h2, by rw [cell_of_block h3, Array.getElem?_eq_getElem hlt], frozen_of_block h3 _, fun u => .inr ⟨g, cap, _, rfl, h2, block_set h3 k u, by rw [Array.size_setIfInBounds]; exact h4⟩⟩
theorem set_keeps (W : World) (g k : Nat) (u : Value) : Keeps (fun q => q = g) W (W.setCell ⟨g, k, none⟩ u) := (Keeps.refl (fun q => q = g) W).setCell (p := ⟨g, k, none⟩) (.inr rfl) _
theorem Spl.setF {A : World} {a b gX : Nat} {vf vp vk : Value} {ps : List Value} {x : Sc} {i : Nat} {W : World} (h : Spl A a b gX vf vp vk ps x i W) {k : Nat} (hk : k < x.first.length) (u : Value) :
    ∃ g cap c, vf = .slice (some ⟨g, 0, none⟩) x.first.length cap ∧ x.first.length ≤ cap ∧ W.cell? ⟨g, k, none⟩ = some c ∧ W.frozen? ⟨g, k, none⟩ = false ∧ Spl A a b gX vf vp vk ps x i (W.setCell ⟨g, k, none⟩ u) := by
  obtain ⟨g, cap, c, e1, e2, e3, e4, e5, e6⟩ := h.first.one hk
  have ks := set_keeps W g k u
  obtain ⟨tag, t1, t2, t3, t4⟩ := h.mark
  have hr := h.rng g (.inl e2)
  have n2 : ∀ q, vp.ownBlock = some q → ¬ q = g := fun q e f => by subst f; have := t1 _ e2; rw [t2 _ e] at this; cases this
  have n3 : ∀ q, vk.ownBlock = some q → ¬ q = g := fun q e f => by subst f; have := t1 _ e2; rw [t3 _ e] at this; cases this
  have n4 : ∀ j (hj : j < ps.length) q, (ps[j]).ownBlock = some q → ¬ q = g := fun j hj q e f => by subst f; have := t1 _ e2; rw [t4 j hj _ e] at this; omega
  exact ⟨g, cap, c, e1, e3, e4, e5, ⟨(ks.block gX (lt_of_block h.box) (by have := h.out; omega)).trans h.box, h.out, h.kp.trans (ks.mono (fun q _ e => by subst e; exact hr)), h.rng, h.plen, e6 u, h.picks.keeps ks n3, h.progs.keeps ks n2, fun j hj hij q e => ks.cell (n2 q e) (h.cell j hj hij q e), fun j hj hx hij => (h.each j hj hx hij).keeps ks (n4 j hj), h.form, h.mark⟩⟩
theorem Spl.setK {A : World} {a b gX : Nat} {vf vp vk : Value} {ps : List Value} {x : Sc} {i : Nat} {W : World} (h : Spl A a b gX vf vp vk ps x i W) {k : Nat} (hk : k < x.picks.length) (u : Value) :
    ∃ g cap c, vk = .slice (some ⟨g, 0, none⟩) x.picks.length cap ∧ x.picks.length ≤ cap ∧ W.cell? ⟨g, k, none⟩ = some c ∧ W.frozen? ⟨g, k, none⟩ = false ∧ Spl A a b gX vf vp vk ps x i (W.setCell ⟨g, k, none⟩ u) := by
  obtain ⟨g, cap, c, e1, e2, e3, e4, e5, e6⟩ := h.picks.one hk
  have ks := set_keeps W g k u
  obtain ⟨tag, t1, t2, t3, t4⟩ := h.mark
  have hr := h.rng g (.inr (.inr (.inl e2)))
  have n1 : ∀ q, vf.ownBlock = some q → ¬ q = g := fun q e f => by subst f; have := t3 _ e2; rw [t1 _ e] at this; cases this
  have n2 : ∀ q, vp.ownBlock = some q → ¬ q = g := fun q e f => by subst f; have := t3 _ e2; rw [t2 _ e] at this; cases this
  have n4 : ∀ j (hj : j < ps.length) q, (ps[j]).ownBlock = some q → ¬ q = g := fun j hj q e f => by subst f; have := t3 _ e2; rw [t4 j hj _ e] at this; omega
  exact ⟨g, cap, c, e1, e3, e4, e5, ⟨(ks.block gX (lt_of_block h.box) (by have := h.out; omega)).trans h.box, h.out, h.kp.trans (ks.mono (fun q _ e => by subst e; exact hr)), h.rng, h.plen, h.first.keeps ks n1, e6 u, h.progs.keeps ks n2, fun j hj hij q e => ks.cell (n2 q e) (h.cell j hj hij q e), fun j hj hx hij => (h.each j hj hx hij).keeps ks (n4 j hj), h.form, h.mark⟩⟩
theorem Spl.setN {A : World} {a b gX : Nat} {vf vp vk : Value} {ps : List Value} {x : Sc} {i : Nat} {W : World} (h : Spl A a b gX vf vp vk ps x i W) (hk : i < x.progs.length) (u : Value) :
    ∃ g cap, vp = .slice (some ⟨g, 0, none⟩) x.progs.length cap ∧ x.progs.length ≤ cap ∧ W.cell? ⟨g, i, none⟩ = some (ps[i]'(by rw [h.plen]; exact hk)) ∧ W.frozen? ⟨g, i, none⟩ = false ∧ Spl A a b gX vf vp vk ps x (i + 1) (W.setCell ⟨g, i, none⟩ u) := by
  obtain ⟨g, cap, c, e1, e2, e3, e4, e5, e6⟩ := h.progs.one hk
  have ks := set_keeps W g i u
  obtain ⟨tag, t1, t2, t3, t4⟩ := h.mark
  have hr := h.rng g (.inr (.inl e2))
  have n1 : ∀ q, vf.ownBlock = some q → ¬ q = g := fun q e f => by subst f; have := t2 _ e2; rw [t1 _ e] at this; cases this
  have n3 : ∀ q, vk.ownBlock = some q → ¬ q = g := fun q e f => by subst f; have := t2 _ e2; rw [t3 _ e] at this; cases this
  have n4 : ∀ j (hj : j < ps.length) q, (ps[j]).ownBlock = some q → ¬ q = g := fun j hj q e f => by subst f; have := t2 _ e2; rw [t4 j hj _ e] at this; omega
  refine ⟨g, cap, e1, e3, h.cell i (by rw [h.plen]; exact hk) (Nat.le_refl _) g e2, e5, ⟨(ks.block gX (lt_of_block h.box) (by have := h.out; omega)).trans h.box, h.out, h.kp.trans (ks.mono (fun q _ e => by subst e; exact hr)), h.rng, h.plen, h.first.keeps ks n1, h.picks.keeps ks n3, e6 u, fun j hj hij q e => ?_, fun j hj hx hij => (h.each j hj hx (by omega)).keeps ks (n4 j hj), h.form, h.mark⟩⟩
  obtain rfl : q = g := by rw [e2] at e; exact (Option.some.inj e).symm
  rw [World.cell?_setCell_other _ _ _ _ (by simp <;> omega)]
  exact h.cell j hj (by omega) q e
theorem Spl.setI {A : World} {a b gX : Nat} {vf vp vk : Value} {ps : List Value} {x : Sc} {i : Nat} {W : World} (h : Spl A a b gX vf vp vk ps x i W) (hi : i < x.progs.length) {k : Nat} (hk : k < (x.progs[i]).length) :
    ∃ g cap W', ps[i]'(by rw [h.plen]; exact hi) = .slice (some ⟨g, 0, none⟩) (x.progs[i]).length cap ∧ (x.progs[i]).length ≤ cap ∧ (Instr.storeAt 45 (.pointer (some ⟨g, k * 5, none⟩)) (.agg #[.int .i64 77, .int .i64 0, .int .i64 0, .int .i64 0, .int .u64 0])).run Tryz.prog W = .ok () W' ∧ Spl A a b gX vf vp vk ps x i W' := by
  have hip : i < ps.length := by rw [h.plen]; exact hi
  rcases h.each i hip hi (Nat.le_refl _) with h0 | ⟨g, cap, cur, e1, e3, hcur, hsz⟩
  · omega
  have e2 : (ps[i]).ownBlock = some g := by rw [e1]; rfl
  have ht := there_block hcur (k * 5) 5 (by omega)
  obtain ⟨cur', hc1, hc2⟩ := block_setCells [.int .i64 77, .int .i64 0, .int .i64 0, .int .i64 0, .int .u64 0] (k * 5) _ _ hcur
  have ks := Keeps.setCells (S := fun q => q = g) (a := W) (b := g) (.inr rfl) [.int .i64 77, .int .i64 0, .int .i64 0, .int .i64 0, .int .u64 0] (k * 5) W (Keeps.refl _ _)
  have hr := run_storeAt_mid (P := Tryz.prog) W g (k * 5) 45 #[.int .i64 77, .int .i64 0, .int .i64 0, .int .i64 0, .int .u64 0] ht size_ins (by simp [Value.oneCell'])
  obtain ⟨tag, t1, t2, t3, t4⟩ := h.mark
  have hrg := h.rng g (.inr (.inr (.inr ⟨_, List.getElem_mem hip, e2⟩)))
  have tg := t4 i hip g e2
  have n1 : ∀ q, vf.ownBlock = some q → ¬ q = g := fun q e f => by subst f; rw [t1 _ e] at tg; omega
  have n2 : ∀ q, vp.ownBlock = some q → ¬ q = g := fun q e f => by subst f; rw [t2 _ e] at tg; omega
  have n3 : ∀ q, vk.ownBlock = some q → ¬ q = g := fun q e f => by subst f; rw [t3 _ e] at tg; omega
  refine ⟨g, cap, _, e1, e3, hr, ⟨(ks.block gX (lt_of_block h.box) (by have := h.out; omega)).trans h.box, h.out, h.kp.trans (ks.mono (fun q _ e => by subst e; exact hrg)), h.rng, h.plen, h.first.keeps ks n1, h.picks.keeps ks n3, h.progs.keeps ks n2, fun j hj hij q e => ks.cell (n2 q e) (h.cell j hj hij q e), fun j hj hx hij => ?_, h.form, h.mark⟩⟩
  by_cases hji : j = i
  · subst hji
    exact .inr ⟨g, cap, cur', e1, e3, hc1, by omega⟩
  · exact (h.each j hj hx hij).keeps ks (fun q e f => by subst f; rw [t4 j hj _ e] at tg; omega)
theorem Sz.spl {W A : World} {a b gX : Nat} {vf vp vk : Value} {ps : List Value} {x : Sc} (h : Sz W a vf vp vk ps x) (k : Keeps (fun _ => False) W A) (hb : W.heap.size = b) (hbox : A.heap[gX]? = some (.cells #[.int .i64 (x.cells : Int), vf, vp, vk] 26 (0, 0))) (hg : b ≤ gX) : Spl A a b gX vf vp vk ps x 0 A := by
  have h' := h.keeps k (fun _ _ f => f)
  refine ⟨hbox, hg, Keeps.refl _ _, fun q hq => ?_, h.plen, there_own h'.first.own, there_own h'.picks.own, there_own h'.progs, fun j hj _ g e => ?_, fun j hj hx _ => there_own (h'.each j hj hx).own, fun j hj hx => ?_, h.mark⟩
  · obtain ⟨q1, q2, _⟩ := h.lies hq
    omega
  · rcases h'.progs.2 with ⟨e1, _⟩ | ⟨g', cap, cur, e1, _, h2, h3, _, h5, h6⟩
    · rw [e1] at e; cases e
    · rw [e1] at e
      cases e
      rw [cell_of_block h2]
      have hjn : j < x.progs.length := by rw [← h.plen]; exact hj
      have : (cur.toList.take (x.progs.length * 1))[j]? = ps[j]? := by rw [h6]
      rw [List.getElem?_take_of_lt (by omega), List.getElem?_eq_getElem hj] at this
      simpa using this
  · exact (h.each j hj hx).form
end Go.Proofs.YtppejcfghlpbjaaGreatDoor
