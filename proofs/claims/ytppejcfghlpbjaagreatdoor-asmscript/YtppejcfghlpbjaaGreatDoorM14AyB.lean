/-
  No statement of the seat is proved here. (Several texts in one: AyB, AyC, AyP.)
-/
import Derived.Test.YtppejcfghlpbjaaGreatDoorM13AxF
import Derived.Test.YtppejcfghlpbjaaGreatDoorM03Lay
import Derived.Lib.ConvBytes
import Derived.Laws.Closers25
import Derived.Laws.Closers25b
import Derived.Lib.Hide

/- A line of a script, by the word that it begins with: pure facts. No statement of the seat is proved here. -/
namespace Go.Proofs.YtppejcfghlpbjaaGreatDoor
open Go.RowKit Go.Shelf

theorem cutA_word {word t : List UInt8} (h : (32 : UInt8) ∉ word) : cutA 32 (word ++ 32 :: t) = (word, t, true) := by
  induction word with
  | nil => simp [cutA]
  | cons d r ih =>
    have hd : d ≠ 32 := fun e => h (by simp [e])
    have hr : (32 : UInt8) ∉ r := fun e => h (by simp [e])
    rw [List.cons_append, cutA, if_neg hd, ih hr]
theorem allM_empty (most : Nat) : allM most (pcs []) = none := by
  rw [show pcs [] = [[]] from rfl, allM, numM_nil]
  rfl
/-- Numbers behind a word, by the first piece of the line. -/
theorem words_cut (most : Nat) (word s : List UInt8) (h : (32 : UInt8) ∉ word) : wordsM most word s = if (cutA 32 s).1 = word then allM most (pcs (cutA 32 s).2.1) else none := by
  by_cases hh : (cutA 32 s).1 = word
  · rw [if_pos hh]
    cases hm : (cutA 32 s).2.2 with
    | true =>
      obtain ⟨h1, _⟩ := cutA_yes s hm
      rw [hh] at h1
      generalize (cutA 32 s).2.1 = t at *
      subst h1
      unfold wordsM
      rw [if_pos ⟨by simp, by simp⟩]
      simp [numsG]
    | false =>
      obtain ⟨h1, h2, _⟩ := cutA_no s hm
      rw [hh] at h1
      rw [h2, allM_empty]
      unfold wordsM
      rw [if_neg (by rw [← h1]; omega)]
  · rw [if_neg hh]
    unfold wordsM
    split
    · rename_i hc
      obtain ⟨h1, h2⟩ := hc
      cases hr : s.drop word.length with
      | nil =>
        have := congrArg List.length hr
        simp at this; omega
      | cons c r =>
        rw [numsG]
        split
        · rename_i h3
          subst h3
          exfalso
          apply hh
          have hs : s = word ++ 32 :: r := by
            rw [← hr]
            conv => lhs; rw [← List.take_append_drop word.length s, h2]
          rw [hs, cutA_word h]
        · rfl
    · rfl
theorem allM_one (most : Nat) (t : List UInt8) (c : Nat) : allM most (pcs t) = some [c] ↔ numM most t = some c := by
  rw [allM_cut]
  cases hm : (cutA 32 t).2.2 with
  | true =>
    obtain ⟨h1, _⟩ := cutA_yes t hm
    have hno : numM most t = none := by
      apply numM_none
      cases hd : decL t with
      | none => rfl
      | some m =>
        have := decL_mem hd 32 (by rw [h1]; simp)
        simp at this
    rw [hno]
    simp only [if_true]
    constructor
    · intro h
      cases hn : numM most (cutA 32 t).1 with
      | none => rw [hn] at h; cases h
      | some n =>
        rw [hn, Option.bind_some] at h
        cases ha : allM most (pcs (cutA 32 t).2.1) with
        | none => rw [ha] at h; cases h
        | some L =>
          rw [ha, Option.map_some] at h
          simp only [Option.some.injEq, List.cons.injEq] at h
          obtain ⟨_, rfl⟩ := h
          rw [pcs_cut, allM] at ha
          cases hq : numM most (cutA 32 (cutA 32 t).2.1).1 with
          | none => rw [hq] at ha; cases ha
          | some q =>
            rw [hq, Option.bind_some, Option.map_eq_some_iff] at ha
            obtain ⟨_, _, e⟩ := ha
            cases e
    · intro h; cases h
  | false =>
    obtain ⟨h1, _, _⟩ := cutA_no t hm
    rw [h1]
    simp only [Bool.false_eq_true, if_false]
    cases numM most t with
    | none => simp
    | some n => simp
theorem no_cells : (32 : UInt8) ∉ cellsW := by decide
theorem no_first : (32 : UInt8) ∉ firstW := by decide
theorem no_picks : (32 : UInt8) ∉ picksW := by decide
theorem cut_thread : cutA 32 threadW = (threadW, [], false) := by decide
theorem nms_picks : ∀ k : Fin 18, (nms[k.val]?).getD [] ≠ picksW := by decide
theorem parse_picks {s : List UInt8} (h : (cutA 32 s).1 = picksW) : parseL s = none := by
  cases hp : parseL s with
  | none => rfl
  | some i =>
    exfalso
    obtain ⟨hf, ht, _, _⟩ := text_parse hp
    obtain ⟨⟨h0, h1⟩, -⟩ := formed_facts hf
    have hnb := nms_noblank ⟨i.op.toNat, by omega⟩
    have hq : pcs s = (nms[i.op.toNat]?).getD [] :: (numL i).map fun n => Lib.decDigits n.toNat := by rw [← ht]; exact pcs_text _ _ hnb
    rw [pcs_cut, h] at hq
    exact nms_picks ⟨i.op.toNat, by omega⟩ (List.cons.inj hq).1.symm
theorem line_cells (x : Sc) (s : List UInt8) : lineS 0 x s = if (cutA 32 s).1 = cellsW then (numM m63 (cutA 32 s).2.1).map (fun c => (1, { x with cells := c })) else none := by
  unfold lineS
  rw [if_pos rfl, words_cut _ _ _ no_cells]
  have hrest : (match (if (0 : Nat) = 1 then wordsM m64 firstW s else none) with
    | some L => some (2, { x with first := L })
    | none => if 1 ≤ 0 ∧ 0 ≤ 3 ∧ s = threadW then some (3, { x with progs := x.progs ++ [[]] }) else
      match (if 1 ≤ 0 ∧ 0 ≤ 3 then wordsM m32 picksW s else none) with
      | some L => some (4, { x with picks := x.picks ++ L })
      | none => if (0 : Nat) = 3 then (parseL s).map fun i => (3, { x with progs := lastPush x.progs i }) else none) = (none : Option (Nat × Sc)) := by simp
  by_cases hh : (cutA 32 s).1 = cellsW
  · rw [if_pos hh, if_pos hh]
    cases hn : numM m63 (cutA 32 s).2.1 with
    | some c =>
      rw [(allM_one m63 _ c).2 hn]
      rfl
    | none =>
      cases ha : allM m63 (pcs (cutA 32 s).2.1) with
      | none => exact hrest
      | some L =>
        match L with
        | [] => exact hrest
        | [c] =>
          have := (allM_one m63 _ c).1 ha
          rw [hn] at this; cases this
        | c :: d :: t => exact hrest
  · rw [if_neg hh, if_neg hh]
    exact hrest
theorem line_thread (st : Nat) (x : Sc) (h1 : 1 ≤ st) (h2 : st ≤ 3) : lineS st x threadW = some (3, { x with progs := x.progs ++ [[]] }) := by
  unfold lineS
  rw [if_neg (by omega : ¬ st = 0)]
  dsimp only
  have hw : wordsM m64 firstW threadW = none := by rw [words_cut _ _ _ no_first, cut_thread]; decide
  rw [hw, show (if st = 1 then (none : Option (List Nat)) else none) = none by split <;> rfl]
  dsimp only
  rw [if_pos ⟨h1, h2, rfl⟩]
theorem line_first (x : Sc) (s : List UInt8) (hs : s ≠ threadW) (h : (cutA 32 s).1 = firstW) : lineS 1 x s = (allM m64 (pcs (cutA 32 s).2.1)).map (fun L => (2, { x with first := L })) := by
  unfold lineS
  rw [if_neg (by omega : ¬ (1 : Nat) = 0)]
  dsimp only
  rw [if_pos rfl, words_cut _ _ _ no_first, if_pos h]
  cases allM m64 (pcs (cutA 32 s).2.1) with
  | some L => rfl
  | none =>
    dsimp only
    rw [if_neg (fun q => hs q.2.2), words_cut _ _ _ no_picks, if_neg (show ¬ (cutA 32 s).1 = picksW by rw [h]; decide), if_pos (show 1 ≤ 1 ∧ 1 ≤ 3 from ⟨by omega, by omega⟩)]
    dsimp only
    rw [if_neg (show ¬ (1 : Nat) = 3 by omega)]
    rfl
theorem line_picks (st : Nat) (x : Sc) (s : List UInt8) (h1 : 1 ≤ st) (h2 : st ≤ 3) (hs : s ≠ threadW) (h : (cutA 32 s).1 = picksW) : lineS st x s = (allM m32 (pcs (cutA 32 s).2.1)).map (fun L => (4, { x with picks := x.picks ++ L })) := by
  unfold lineS
  rw [if_neg (by omega : ¬ st = 0)]
  dsimp only
  rw [words_cut _ _ _ no_first, if_neg (show ¬ (cutA 32 s).1 = firstW by rw [h]; decide), show (if st = 1 then (none : Option (List Nat)) else none) = none by split <;> rfl]
  dsimp only
  rw [if_neg (fun q => hs q.2.2), words_cut _ _ _ no_picks, if_pos h, if_pos ⟨h1, h2⟩]
  cases allM m32 (pcs (cutA 32 s).2.1) with
  | some L => rfl
  | none =>
    dsimp only
    rw [parse_picks h]
    split <;> rfl
theorem line_else (st : Nat) (x : Sc) (s : List UInt8) (h1 : 1 ≤ st) (h2 : st ≤ 3) (hs : s ≠ threadW) (hf : ¬ (st = 1 ∧ (cutA 32 s).1 = firstW)) (hp : (cutA 32 s).1 ≠ picksW) : lineS st x s = if st = 3 then (parseL s).map fun i => (3, { x with progs := lastPush x.progs i }) else none := by
  unfold lineS
  rw [if_neg (by omega : ¬ st = 0)]
  dsimp only
  have hw : (if st = 1 then wordsM m64 firstW s else none) = none := by
    split
    · rename_i h
      rw [words_cut _ _ _ no_first, if_neg (fun q => hf ⟨h, q⟩)]
    · rfl
  rw [hw]
  dsimp only
  rw [if_neg (fun q => hs q.2.2), words_cut _ _ _ no_picks, if_neg hp, show (if 1 ≤ st ∧ st ≤ 3 then (none : Option (List Nat)) else none) = none by split <;> rfl]
theorem line_over (x : Sc) (s : List UInt8) : lineS 4 x s = none := by
  unfold lineS
  simp
/-- A number of a line is at most the greatest. -/
theorem numM_le {most : Nat} {s : List UInt8} {n : Nat} (h : numM most s = some n) : n ≤ most := by
  unfold numM at h
  cases hd : decL s with
  | none => rw [hd] at h; cases h
  | some m =>
    rw [hd, Option.bind_some] at h
    split at h
    · cases h; assumption
    · cases h
theorem allM_le (most : Nat) : ∀ (P : List (List UInt8)) (L : List Nat), allM most P = some L → ∀ n ∈ L, n ≤ most
  | [], L, h, n, hn => by simp [allM] at h; subst h; simp at hn
  | x :: P, L, h, n, hn => by
    rw [allM] at h
    cases hx : numM most x with
    | none => rw [hx] at h; cases h
    | some m =>
      rw [hx, Option.bind_some, Option.map_eq_some_iff] at h
      obtain ⟨K, hK, rfl⟩ := h
      rcases List.mem_cons.1 hn with rfl | hn
      · exact numM_le hx
      · exact allM_le most P K hK n hn
end Go.Proofs.YtppejcfghlpbjaaGreatDoor


/- The program's reading of a script, as it lies. No statement of the seat is proved here. -/
namespace Go.Proofs.YtppejcfghlpbjaaGreatDoor
open Go.RowKit Go.Shelf

/-- The script that is read, as it lies: its box, and its rows, told apart by their marks. -/
structure Sy (W : World) (base gx d : Nat) (vf vp vk : Value) (ps : List Value) (x : Sc) : Prop where
  box : W.heap[gx]? = some (.cells #[.int .i64 (x.cells : Int), vf, vp, vk, .int .i64 (d : Int)] 70 (0, 0))
  first : Nums W base vf x.first
  progs : W.ownsRow base 42 1 vp x.progs.length ps
  plen : ps.length = x.progs.length
  each : ∀ k (h1 : k < ps.length) (h2 : k < x.progs.length), Irs W base (ps[k]) (x.progs[k])
  picks : Nms32 W base vk x.picks
  wf : ∀ p ∈ x.progs, ∀ i ∈ p, i.wf
  mark : ∃ tag : Nat → Nat, tag gx = 0 ∧ (∀ g, vf.ownBlock = some g → tag g = 1) ∧ (∀ g, vp.ownBlock = some g → tag g = 2) ∧ (∀ g, vk.ownBlock = some g → tag g = 3) ∧ ∀ k (h : k < ps.length) g, (ps[k]).ownBlock = some g → tag g = 4 + k
theorem Sy.keeps {W W' : World} {base gx d : Nat} {vf vp vk : Value} {ps : List Value} {x : Sc} (h : Sy W base gx d vf vp vk ps x) (k : Keeps (fun _ => False) W W') : Sy W' base gx d vf vp vk ps x :=
  ⟨(k.block gx (lt_of_block h.box) (fun f => f)).trans h.box, h.first.keeps k (fun _ _ f => f), own_keeps h.progs k (fun _ _ f => f), h.plen, fun j h1 h2 => (h.each j h1 h2).keeps k (fun _ _ f => f), ⟨own_keeps h.picks.own k (fun _ _ f => f), Nat.le_trans h.picks.base k.size⟩, h.wf, h.mark⟩
/-- The number of cells is laid. -/
theorem Sy.setCells {W : World} {base gx d : Nat} {vf vp vk : Value} {ps : List Value} {x : Sc} (h : Sy W base gx d vf vp vk ps x) (c : Nat) : Sy (W.setCell ⟨gx, 0, none⟩ (.int .i64 (c : Int))) base gx d vf vp vk ps { x with cells := c } := by
  have ks : Keeps (fun k => k = gx) W (W.setCell ⟨gx, 0, none⟩ (.int .i64 (c : Int))) := (Keeps.refl (fun k => k = gx) W).setCell (p := ⟨gx, 0, none⟩) (.inr rfl) _
  obtain ⟨tag, t0, t1, t2, t3, t4⟩ := h.mark
  refine ⟨block_set h.box 0 _, h.first.keeps ks (fun g e f => by subst f; rw [t1 _ e] at t0; cases t0), own_keeps h.progs ks (fun g e f => by subst f; rw [t2 _ e] at t0; cases t0), h.plen, fun j h1 h2 => (h.each j h1 h2).keeps ks (fun g e f => by subst f; rw [t4 j h1 _ e] at t0; omega), ⟨own_keeps h.picks.own ks (fun g e f => by subst f; rw [t3 _ e] at t0; cases t0), Nat.le_trans h.picks.base ks.size⟩, h.wf, ⟨tag, t0, t1, t2, t3, t4⟩⟩
/-- The first words are laid: a row younger than all the others. -/
theorem Sy.setFirst {W0 W : World} {base gx d : Nat} {vf vp vk v : Value} {ps : List Value} {x : Sc} {L : List Nat} (h : Sy W0 base gx d vf vp vk ps x) (k : Keeps (fun _ => False) W0 W) (hN : Nums W W0.heap.size v L) : Sy (W.setCell ⟨gx, 1, none⟩ v) base gx d v vp vk ps { x with first := L } := by
  have h' := h.keeps k
  have ks : Keeps (fun k => k = gx) W (W.setCell ⟨gx, 1, none⟩ v) := (Keeps.refl (fun k => k = gx) W).setCell (p := ⟨gx, 1, none⟩) (.inr rfl) _
  obtain ⟨tag, t0, t1, t2, t3, t4⟩ := h.mark
  have hgx := lt_of_block h.box
  have hb : base ≤ W0.heap.size := h.first.base
  have hv : ∀ g, v.ownBlock = some g → W0.heap.size ≤ g := fun g e => (own_block hN.own e).2
  refine ⟨block_set h'.box 1 _, ⟨own_mono (own_keeps hN.own ks (fun g e f => by subst f; have := hv _ e; omega)) hb, Nat.le_trans hb (Nat.le_trans k.size ks.size)⟩, own_keeps h'.progs ks (fun g e f => by subst f; rw [t2 _ e] at t0; cases t0), h.plen, fun j h1 h2 => (h'.each j h1 h2).keeps ks (fun g e f => by subst f; rw [t4 j h1 _ e] at t0; omega), ⟨own_keeps h'.picks.own ks (fun g e f => by subst f; rw [t3 _ e] at t0; cases t0), Nat.le_trans h'.picks.base ks.size⟩, h.wf, ⟨young W0.heap.size 1 tag, ?_, ?_, ?_, ?_, ?_⟩⟩
  · rw [young_old (by omega)]; exact t0
  · intro g e; rw [young_new (hv g e)]
  · intro g e; have := (own_block h.progs e).1; rw [young_old (by omega)]; exact t2 g e
  · intro g e; have := (own_block h.picks.own e).1; rw [young_old (by omega)]; exact t3 g e
  · intro j hj g e; have := (own_block (h.each j hj (by rw [← h.plen]; exact hj)).own e).1; rw [young_old (by omega)]; exact t4 j hj g e
/-- The picks are laid: a row younger than all the others. -/
theorem Sy.setPicks {W0 W : World} {base gx d : Nat} {vf vp vk v : Value} {ps : List Value} {x : Sc} {L : List Nat} (h : Sy W0 base gx d vf vp vk ps x) (k : Keeps (fun _ => False) W0 W) (hN : Nms32 W W0.heap.size v L) : Sy (W.setCell ⟨gx, 3, none⟩ v) base gx d vf vp v ps { x with picks := L } := by
  have h' := h.keeps k
  have ks : Keeps (fun k => k = gx) W (W.setCell ⟨gx, 3, none⟩ v) := (Keeps.refl (fun k => k = gx) W).setCell (p := ⟨gx, 3, none⟩) (.inr rfl) _
  obtain ⟨tag, t0, t1, t2, t3, t4⟩ := h.mark
  have hgx := lt_of_block h.box
  have hb : base ≤ W0.heap.size := h.first.base
  have hv : ∀ g, v.ownBlock = some g → W0.heap.size ≤ g := fun g e => (own_block hN.own e).2
  refine ⟨block_set h'.box 3 _, h'.first.keeps ks (fun g e f => by subst f; rw [t1 _ e] at t0; cases t0), own_keeps h'.progs ks (fun g e f => by subst f; rw [t2 _ e] at t0; cases t0), h.plen, fun j h1 h2 => (h'.each j h1 h2).keeps ks (fun g e f => by subst f; rw [t4 j h1 _ e] at t0; omega), ⟨own_mono (own_keeps hN.own ks (fun g e f => by subst f; have := hv _ e; omega)) hb, Nat.le_trans hb (Nat.le_trans k.size ks.size)⟩, h.wf, ⟨young W0.heap.size 3 tag, ?_, ?_, ?_, ?_, ?_⟩⟩
  · rw [young_old (by omega)]; exact t0
  · intro g e; have := (own_block h.first.own e).1; rw [young_old (by omega)]; exact t1 g e
  · intro g e; have := (own_block h.progs e).1; rw [young_old (by omega)]; exact t2 g e
  · intro g e; rw [young_new (hv g e)]
  · intro j hj g e; have := (own_block (h.each j hj (by rw [← h.plen]; exact hj)).own e).1; rw [young_old (by omega)]; exact t4 j hj g e
/-- What is due is laid. -/
theorem Sy.setDue {W : World} {base gx d : Nat} {vf vp vk : Value} {ps : List Value} {x : Sc} (h : Sy W base gx d vf vp vk ps x) (c : Nat) : Sy (W.setCell ⟨gx, 4, none⟩ (.int .i64 (c : Int))) base gx c vf vp vk ps x := by
  have ks : Keeps (fun k => k = gx) W (W.setCell ⟨gx, 4, none⟩ (.int .i64 (c : Int))) := (Keeps.refl (fun k => k = gx) W).setCell (p := ⟨gx, 4, none⟩) (.inr rfl) _
  obtain ⟨tag, t0, t1, t2, t3, t4⟩ := h.mark
  refine ⟨block_set h.box 4 _, h.first.keeps ks (fun g e f => by subst f; rw [t1 _ e] at t0; cases t0), own_keeps h.progs ks (fun g e f => by subst f; rw [t2 _ e] at t0; cases t0), h.plen, fun j h1 h2 => (h.each j h1 h2).keeps ks (fun g e f => by subst f; rw [t4 j h1 _ e] at t0; omega), ⟨own_keeps h.picks.own ks (fun g e f => by subst f; rw [t3 _ e] at t0; cases t0), Nat.le_trans h.picks.base ks.size⟩, h.wf, ⟨tag, t0, t1, t2, t3, t4⟩⟩
/-- As it lies, without its box. -/
theorem Sy.at {W : World} {base gx d : Nat} {vf vp vk : Value} {ps : List Value} {x : Sc} (h : Sy W base gx d vf vp vk ps x) (hb : ∀ p ∈ x.progs, p.length * 40 ≤ 140737488355328) : ScAt W vf vp vk x := by
  obtain ⟨a, c, e1, l1, h1⟩ := row_lies h.first.own
  obtain ⟨b, c2, e2, l2, h2⟩ := row_lies h.progs
  obtain ⟨p, q, e3, l3, h3⟩ := row_lies h.picks.own
  refine ⟨⟨a, c, e1, l1, fun k hk => h1 k _ hk (by simp [hk])⟩, ⟨b, c2, e2, l2, fun k hk => ?_⟩, ⟨p, q, e3, l3, fun k hk => h3 k _ hk (by simp [hk])⟩⟩
  have hkp : k < ps.length := by rw [h.plen]; exact hk
  obtain ⟨g, off, e, hc⟩ := h2 k (ps[k]) hk (by simp [hkp])
  exact ⟨g, off, ps[k], e, hc, (h.each k hkp hk).insAt (h.wf _ (List.getElem_mem hk)) (hb _ (List.getElem_mem hk))⟩
/-- The blocks in which it may be changed. -/
def SyOwn (gx : Nat) (vp : Value) (ps : List Value) (q : Nat) : Prop := q = gx ∨ vp.ownBlock = some q ∨ ∃ v ∈ ps, v.ownBlock = some q
theorem own_kind {w : World} {base size : Nat} {e : TypeId} {v : Value} {n : Nat} {xs : List Value} (h : w.ownsRow base e size v n xs) {g : Nat} (hg : v.ownBlock = some g) : ∃ c t fr, w.heap[g]? = some (.cells c t fr) := by
  rcases h.2 with ⟨rfl, _⟩ | ⟨g', cap, cur, rfl, _, h2, _⟩
  · simp [Value.ownBlock] at hg
  · simp [Value.ownBlock] at hg
    subst hg
    exact ⟨_, _, _, h2⟩
theorem SyOwn.ge {W : World} {B gx d : Nat} {vf vp vk : Value} {ps : List Value} {x : Sc} (h : Sy W B gx d vf vp vk ps x) {q : Nat} (hq : SyOwn gx vp ps q) : q = gx ∨ B ≤ q := by
  rcases hq with e | e | ⟨v, hv, e⟩
  · exact .inl e
  · exact .inr (own_block h.progs e).2
  · obtain ⟨k, hk, rfl⟩ := List.getElem_of_mem hv
    exact .inr (own_block (h.each k hk (by rw [← h.plen]; exact hk)).own e).2
theorem SyOwn.kind {W : World} {B gx d : Nat} {vf vp vk : Value} {ps : List Value} {x : Sc} (h : Sy W B gx d vf vp vk ps x) {q : Nat} (hq : SyOwn gx vp ps q) : ∃ c t fr, W.heap[q]? = some (.cells c t fr) := by
  rcases hq with e | e | ⟨v, hv, e⟩
  · subst e; exact ⟨_, _, _, h.box⟩
  · exact own_kind h.progs e
  · obtain ⟨k, hk, rfl⟩ := List.getElem_of_mem hv
    exact own_kind (h.each k hk (by rw [← h.plen]; exact hk)).own e
/-- One program more: none yet. -/
theorem Sy.addProg {W : World} {B gx d : Nat} {vf vp vk : Value} {ps : List Value} {x : Sc} (h : Sy W B gx d vf vp vk ps x) (k : B ≤ W.heap.size) (hb : x.progs.length ≤ 1048576) :
    ∃ v' W', (Builtin.append_ #[23, 23] 23 #[vp, .slice (some ⟨W.heap.size, 0, none⟩) 1 1]).run Tryz.prog (W.alloc (.cells #[.slice none 0 0] 42)) = .ok v' W' ∧ W'.heap[gx]? = W.heap[gx]? ∧ (∀ q, q < W.heap.size → vp.ownBlock ≠ some q → W'.heap[q]? = W.heap[q]?) ∧
      Sy (W'.setCell ⟨gx, 2, none⟩ v') B gx d vf v' vk (ps ++ [.slice none 0 0]) { x with progs := x.progs ++ [[]] } ∧ Keeps (fun q => q = gx ∨ vp.ownBlock = some q) W (W'.setCell ⟨gx, 2, none⟩ v') := by
  obtain ⟨v', W', h1, h2, h3⟩ := own_push1 (P := Tryz.prog) W B 23 23 42 _ 1 24 Tryz.underlying23 info_sl rfl (by decide) vp x.progs.length _ h.progs [.slice none 0 0] rfl (by simp [Value.oneCell']) (by omega) (by decide) k
  obtain ⟨tag, t0, t1, t2, t3, t4⟩ := h.mark
  have hgl := lt_of_block h.box
  have ngx : vp.ownBlock ≠ some gx := fun e => by rw [t2 _ e] at t0; cases t0
  have hbox := (h3.keeps.block gx hgl ngx)
  have nf : ∀ g, vf.ownBlock = some g → vp.ownBlock ≠ some g := fun g e f => by have a := t1 g e; rw [t2 g f] at a; cases a
  have nk : ∀ g, vk.ownBlock = some g → vp.ownBlock ≠ some g := fun g e f => by have a := t3 g e; rw [t2 g f] at a; cases a
  have ne : ∀ j (hj : j < ps.length) g, (ps[j]).ownBlock = some g → vp.ownBlock ≠ some g := fun j hj g e f => by have a := t4 j hj g e; rw [t2 g f] at a; omega
  have ks : Keeps (fun k => k = gx) W' (W'.setCell ⟨gx, 2, none⟩ v') := (Keeps.refl (fun k => k = gx) W').setCell (p := ⟨gx, 2, none⟩) (.inr rfl) _
  have ngx' : v'.ownBlock ≠ some gx := fun e => by
    rcases h3.own with q | q
    · exact ngx (q ▸ e)
    · have := q gx e; omega
  have b1 : W'.heap[gx]? = some (.cells #[.int .i64 (x.cells : Int), vf, vp, vk, .int .i64 (d : Int)] 70 (0, 0)) := hbox.trans h.box
  have hkeep : B ≤ W'.heap.size := Nat.le_trans k h3.keeps.size
  refine ⟨v', W', h1, hbox, fun q hq hn => h3.keeps.block q hq hn, ⟨block_set b1 2 _, (h.first.keeps h3.keeps nf).keeps ks (fun g e f => by subst f; rw [t1 _ e] at t0; cases t0), ?_, by simp [h.plen], ?_, ⟨own_keeps (own_keeps h.picks.own h3.keeps nk) ks (fun g e f => by subst f; rw [t3 _ e] at t0; cases t0), Nat.le_trans (Nat.le_trans h.picks.base h3.keeps.size) ks.size⟩, ?_, ⟨young W.heap.size 2 tag, ?_, ?_, ?_, ?_, ?_⟩⟩, (h3.keeps.mono (fun _ _ e => .inr e)).trans (ks.mono (fun _ _ e => .inl e))⟩
  · have := own_keeps h2 ks (fun g e f => by subst f; exact ngx' e)
    simpa using this
  · intro j j1 j2
    by_cases hj : j < ps.length
    · have hj2 : j < x.progs.length := by rw [← h.plen]; exact hj
      simp only [List.getElem_append_left hj, List.getElem_append_left hj2]
      exact ((h.each j hj hj2).keeps h3.keeps (ne j hj)).keeps ks (fun g e f => by subst f; rw [t4 j hj _ e] at t0; omega)
    · have e1 : j = ps.length := by simp at j1; omega
      subst e1
      have e2 : ps.length = x.progs.length := h.plen
      rw [List.getElem_append_right (Nat.le_refl _)]
      simp only [Nat.sub_self, List.getElem_cons_zero]
      have : (x.progs ++ [[]])[ps.length]'j2 = [] := by
        rw [List.getElem_append_right (by omega)]
        simp [e2]
      rw [this]
      exact ⟨⟨rfl, .inl ⟨rfl, rfl⟩⟩, Nat.le_trans hkeep ks.size⟩
  · intro p hp i hi
    rcases List.mem_append.1 hp with hp | hp
    · exact h.wf p hp i hi
    · simp only [List.mem_singleton] at hp; subst hp; simp at hi
  · rw [young_old (by omega)]; exact t0
  · intro g e; have := (own_block h.first.own e).1; rw [young_old (by omega)]; exact t1 g e
  · intro g e
    by_cases hy : W.heap.size ≤ g
    · rw [young_new hy]
    · rw [young_old (by omega)]
      rcases h3.own with q | q
      · exact t2 g (q ▸ e)
      · have := q g e; omega
  · intro g e; have := (own_block h.picks.own e).1; rw [young_old (by omega)]; exact t3 g e
  · intro j hj g e
    by_cases hjl : j < ps.length
    · rw [List.getElem_append_left hjl] at e
      have := (own_block (h.each j hjl (by rw [← h.plen]; exact hjl)).own e).1
      rw [young_old (by omega)]; exact t4 j hjl g e
    · rw [List.getElem_append_right (by omega)] at e
      simp at hj
      have : j - ps.length = 0 := by omega
      simp [this] at e
      cases e
/-- An instruction more in the last program. -/
theorem Sy.addIns {W : World} {B gx d : Nat} {vf vp vk : Value} {ps : List Value} {x : Sc} (h : Sy W B gx d vf vp vk ps x) (_k : B ≤ W.heap.size) (i : I5) (hi : i.wf) (m : Nat) (hm : x.progs.length = m + 1) (hb : ((x.progs[m]'(by omega)).length + 1) * 40 ≤ 140737488355328) :
    ∃ gp cap v' W', vp = .slice (some ⟨gp, 0, none⟩) (m + 1) cap ∧ m + 1 ≤ cap ∧ W.cell? ⟨gp, m, none⟩ = some (ps[m]'(by rw [h.plen]; omega)) ∧
      (Builtin.append_ #[42, 42] 42 #[ps[m]'(by rw [h.plen]; omega), .slice (some ⟨W.heap.size, 0, none⟩) 1 1]).run Tryz.prog (W.alloc (.cells #[.int .i64 i.op, .int .i64 i.a, .int .i64 i.b, .int .i64 i.c, .int .u64 i.n] 45)) = .ok v' W' ∧
      (∀ q, q < W.heap.size → (ps[m]'(by rw [h.plen]; omega)).ownBlock ≠ some q → W'.heap[q]? = W.heap[q]?) ∧ (ps[m]'(by rw [h.plen]; omega)).ownBlock ≠ some gx ∧ (ps[m]'(by rw [h.plen]; omega)).ownBlock ≠ some gp ∧
      (∃ u, W'.cell? ⟨gp, m, none⟩ = some u) ∧ W'.frozen? ⟨gp, m, none⟩ = false ∧
      Sy (W'.setCell ⟨gp, m, none⟩ v') B gx d vf vp vk (ps.set m v') { x with progs := lastPush x.progs i } ∧ vp.ownBlock = some gp ∧ Keeps (fun q => q = gp ∨ (ps[m]'(by rw [h.plen]; omega)).ownBlock = some q) W (W'.setCell ⟨gp, m, none⟩ v') := by
  have hmp : m < ps.length := by rw [h.plen]; omega
  have hmx : m < x.progs.length := by omega
  obtain ⟨v', W', h1, h2, h3⟩ := (h.each m hmp hmx).push2 i hi hb
  obtain ⟨tag, t0, t1, t2, t3, t4⟩ := h.mark
  have hgl := lt_of_block h.box
  have ngx : (ps[m]).ownBlock ≠ some gx := fun e => by rw [t4 m hmp _ e] at t0; omega
  have nf : ∀ g, vf.ownBlock = some g → (ps[m]).ownBlock ≠ some g := fun g e f => by have a := t1 g e; rw [t4 m hmp g f] at a; omega
  have np : ∀ g, vp.ownBlock = some g → (ps[m]).ownBlock ≠ some g := fun g e f => by have a := t2 g e; rw [t4 m hmp g f] at a; omega
  have nk : ∀ g, vk.ownBlock = some g → (ps[m]).ownBlock ≠ some g := fun g e f => by have a := t3 g e; rw [t4 m hmp g f] at a; omega
  have ne : ∀ j (hj : j < ps.length), j ≠ m → ∀ g, (ps[j]).ownBlock = some g → (ps[m]).ownBlock ≠ some g := fun j hj hjm g e f => by have a := t4 j hj g e; rw [t4 m hmp g f] at a; omega
  obtain ⟨gp, cap, e1, e2, e3, e4, e5, e6⟩ := own_set1 (own_keeps h.progs h3.keeps np) m hmx v'
  have e4' := (own_set1 h.progs m hmx v')
  obtain ⟨gp', cap', f1, f2, f3, f4, f5, f6⟩ := e4'
  have hgg : gp' = gp := by rw [e1] at f1; simp only [Value.slice.injEq, Option.some.injEq, Addr.mk.injEq] at f1; exact f1.1.1.symm
  subst hgg
  have hgpl : gp' < W.heap.size := (own_block h.progs f3).1
  have tgp : tag gp' = 2 := t2 gp' f3
  have ks : Keeps (fun k => k = gp') W' (W'.setCell ⟨gp', m, none⟩ v') := (Keeps.refl (fun k => k = gp') W').setCell (p := ⟨gp', m, none⟩) (.inr rfl) _
  have hbox := (h3.keeps.block gx hgl ngx)
  have gxp : gx ≠ gp' := fun e => by rw [e] at t0; rw [tgp] at t0; cases t0
  have hlen : (lastPush x.progs i).length = x.progs.length := by simp [lastPush]
  have hgetm : (lastPush x.progs i)[m]'(by rw [hlen]; exact hmx) = x.progs[m] ++ [i] := by
    unfold lastPush
    rw [List.getElem_modify, if_pos (by omega)]
  have hgeto : ∀ j (hj : j < x.progs.length), j ≠ m → (lastPush x.progs i)[j]'(by rw [hlen]; exact hj) = x.progs[j] := fun j hj hjm => by
    unfold lastPush
    rw [List.getElem_modify, if_neg (by omega)]
  have nv : v'.ownBlock ≠ some gp' := fun e => by
    rcases h3.own with q | q
    · exact np gp' f3 (q ▸ e)
    · have := q gp' e; omega
  refine ⟨gp', cap, v', W', by rw [e1, hm], by omega, by rw [f4, List.getElem?_eq_getElem hmp], h1, fun q hq hn => h3.keeps.block q hq hn, ngx, np gp' f3, ⟨ps[m], by rw [e4, List.getElem?_eq_getElem hmp]⟩, e5, ⟨?_, (h.first.keeps h3.keeps nf).keeps ks (fun g e f => by subst f; have := t1 _ e; rw [tgp] at this; cases this), by rw [hlen]; exact e6, by rw [hlen, List.length_set]; exact h.plen, ?_, ⟨own_keeps (own_keeps h.picks.own h3.keeps nk) ks (fun g e f => by subst f; have := t3 _ e; rw [tgp] at this; cases this), Nat.le_trans (Nat.le_trans h.picks.base h3.keeps.size) ks.size⟩, ?_, ⟨young W.heap.size (4 + m) tag, ?_, ?_, ?_, ?_, ?_⟩⟩, f3, (h3.keeps.mono (fun _ _ e => .inr e)).trans (ks.mono (fun _ _ e => .inl e))⟩
  · exact (ks.block gx (Nat.lt_of_lt_of_le hgl h3.keeps.size) gxp).trans (hbox.trans h.box)
  · intro j j1 j2
    rw [List.length_set] at j1
    rw [hlen] at j2
    by_cases hj : j = m
    · subst hj
      rw [hgetm]
      simp only [List.getElem_set_self]
      exact h2.keeps ks (fun g e f => by subst f; exact nv e)
    · rw [hgeto j j2 hj, List.getElem_set_ne (Ne.symm hj)]
      exact ((h.each j j1 j2).keeps h3.keeps (ne j j1 hj)).keeps ks (fun g e f => by subst f; have := t4 j j1 _ e; rw [tgp] at this; omega)
  · intro p hp
    obtain ⟨j, hj, rfl⟩ := List.getElem_of_mem hp
    rw [hlen] at hj
    by_cases hjm : j = m
    · subst hjm
      rw [hgetm]
      intro q hq
      rcases List.mem_append.1 hq with hq | hq
      · exact h.wf _ (List.getElem_mem hmx) q hq
      · simp only [List.mem_singleton] at hq; subst hq; exact hi
    · rw [hgeto j hj hjm]
      exact h.wf _ (List.getElem_mem hj)
  · rw [young_old (by omega)]; exact t0
  · intro g e; have := (own_block h.first.own e).1; rw [young_old (by omega)]; exact t1 g e
  · intro g e; have := (own_block h.progs e).1; rw [young_old (by omega)]; exact t2 g e
  · intro g e; have := (own_block h.picks.own e).1; rw [young_old (by omega)]; exact t3 g e
  · intro j hj g e
    have hj' : j < ps.length := by simpa using hj
    by_cases hjm : j = m
    · subst hjm
      simp only [List.getElem_set_self] at e
      by_cases hy : W.heap.size ≤ g
      · rw [young_new hy]
      · rw [young_old (by omega)]
        rcases h3.own with q | q
        · exact t4 j hj' g (q ▸ e)
        · have := q g e; omega
    · rw [List.getElem_set_ne (Ne.symm hjm)] at e
      have := (own_block (h.each j hj' (by rw [← h.plen]; exact hj')).own e).1
      rw [young_old (by omega)]; exact t4 j hj' g e
end Go.Proofs.YtppejcfghlpbjaaGreatDoor


/- Walks of strconv.ParseUint at 64, 63 and 32 bits, strconv.FormatUint and strings.Cut, as package asm calls them. No statement of the seat is proved here. -/
namespace Go.Proofs.YtppejcfghlpbjaaGreatDoor
open Go.RowKit Go.Shelf

/-- What the package's calls read of the program's variables, with the library's two errors. -/
structure Gq (w : World) : Prop where
  gp : Gp w
  esy : ∃ t p, w.cell? ⟨5, 0, none⟩ = some (.iface t p)
  erg : ∃ t p, w.cell? ⟨6, 0, none⟩ = some (.iface t p)
theorem Gq.keeps {w w' : World} (h : Gq w) (k : Keeps (fun _ => False) w w') : Gq w' := by
  obtain ⟨h1, ⟨t, p, h2⟩, ⟨u, q, h3⟩⟩ := h
  exact ⟨h1.keeps k, ⟨t, p, cell_keep k h2⟩, ⟨u, q, cell_keep k h3⟩⟩
theorem cell_keepB {W W' : World} {S : Nat → Prop} (k : Keeps S W W') {a : Addr} {v : Value} (hs : ¬ S a.block) (h : W.cell? a = some v) : W'.cell? a = some v := by
  have hb := k.block a.block (World.block_lt_of_cell? _ _ h) hs
  rw [← h]
  simp only [World.cell?, hb]
theorem tab_keepsB {w w' : World} {S : Nat → Prop} (h : Lib.TabIs Tryz.prog w "internal/strconv.uint64pow10" .u64 Lib.pow10Tab) (k : Keeps S w w') (hs : ¬ S 2) : Lib.TabIs Tryz.prog w' "internal/strconv.uint64pow10" .u64 Lib.pow10Tab := by
  have hc := h.cell gPow 0 (by rw [Lib.pow10Tab_length]; decide)
  have hb := k.block _ (World.block_lt_of_cell? _ _ hc) hs
  unfold Lib.TabIs World.var? at *
  rw [gPow] at *
  simp only [Option.bind_some] at *
  simp only [hb]
  exact h
theorem Gq.keepsB {w w' : World} {S : Nat → Prop} (h : Gq w) (k : Keeps S w w') (base : Nat) (hb : 9 ≤ base) (hS : ∀ q, S q → base ≤ q) : Gq w' := by
  have hno : ∀ q, q < 9 → ¬ S q := fun q hq e => by have := hS q e; omega
  obtain ⟨⟨h1, h2⟩, ⟨t, p, h3⟩, ⟨u, q, h4⟩⟩ := h
  refine ⟨⟨h1.keepsB k base ⟨by omega, ?_⟩ hS, tab_keepsB h2 k (hno _ (by decide))⟩, ⟨t, p, cell_keepB k (hno _ (by decide)) h3⟩, ⟨u, q, cell_keepB k (hno _ (by decide)) h4⟩⟩
  have e : lays147_ren.g 1 < 9 := by decide
  omega

theorem cut_any (c : UInt8) (l : List UInt8) (hl : l.length ≤ 200000) (w : World) (hg : Gl w) : Calls Tryz.prog 44 #[.string ⟨l.toArray⟩, .string ⟨#[c]⟩] w fun ex w' => ex = .returned (.tuple #[.string ⟨(cutA c l).1.toArray⟩, .string ⟨(cutA c l).2.1.toArray⟩, .bool (cutA c l).2.2]) ∧ Keeps (fun _ => False) w w' := by
  obtain ⟨m, hm⟩ := hg.max
  have h := Any.strings_Cut lays145 ⟨l.toArray⟩ ⟨#[c]⟩ m w (by rw [size_of]; omega) hm
  refine h.mono fun e w' ⟨h1, n, h2⟩ => ?_
  change e = .returned (.tuple #[.string ⟨(Lib.cut l [c]).1.toArray⟩, .string ⟨(Lib.cut l [c]).2.1.toArray⟩, .bool (Lib.cut l [c]).2.2]) at h1
  rw [cut_eq] at h1
  exact ⟨h1, by rw [h2]; exact (Keeps.refl _ w).drewN n⟩

theorem grow_keeps {w w' : World} {k : Nat} {os : Array Obj} (h : w' = Go.Sort.grow (w.drewN k) os) : Keeps (fun _ => False) w w' := by
  rw [h]
  refine ⟨rfl, rfl, rfl, ?_, fun q hq _ => ?_⟩
  · simp [Go.Sort.grow, World.drewN]
  · simp only [Go.Sort.grow, World.drewN]
    exact Array.getElem?_append_left hq
set_option maxRecDepth 100000 in
set_option maxHeartbeats 2000000 in
theorem ifmt_any (u : Nat) (hu64 : u < 18446744073709551616) (w : World) (hg : Gp w) : Calls Tryz.prog 60 #[.int .u64 (u : Int), .int .i64 10] w fun e w' => e = .returned (.string ⟨(Lib.decDigits u).toArray⟩) ∧ Keeps (fun _ => False) w w' := by
  have htab := hg.tab
  by_cases hs : u < 100
  · have SM : Calls Tryz.prog 82 #[.int .i64 (u : Int)] w fun e w' => e = .returned (.string ⟨(Lib.decDigits u).toArray⟩) ∧ w = w' := (Any.internal_strconv_small { lays171 with } u hs w).mono (fun e w' h => ⟨h.1, h.2.symm⟩)
    have hd : decide ((u : Int) < 100) = true := decide_eq_true (by omega)
    have hw : IntKind.i64.wrap (u : Int) = (u : Int) := by rw [IntKind.wrap_i64]; omega
    clear hg htab
    go_enter Tryz.func60, Tryz.ntmps60
    go_wp2_with fail
    refine SM.mono ?_
    rintro ex w1 ⟨rfl, rfl⟩
    go_wp2_with fail
    go_ret
    exact ⟨rfl, Keeps.refl _ _⟩
  · have hu1 : 1 ≤ u := by omega
    have hd : decide ((u : Int) < 100) = false := decide_eq_false (by omega)
    have hnd20 : Lib.nDigits u ≤ 20 := by have := Lib.numDigits_eq u hu1 hu64; split at this <;> omega
    have hal : Tryz.prog.arrayLen 141 = 24 := by kernel_rfl
    have hsl1 : ∀ W, (Instr.sliceAt 141 (.pointer (some ⟨w.heap.size, 0, none⟩)) none (some (.int .i64 (Lib.nDigits u : Int))) none).run Tryz.prog W = .ok (.slice (some ⟨w.heap.size, 0, none⟩) (Lib.nDigits u) 24) W := fun W => by
      rw [run_sliceAt_array_h W 141 ⟨w.heap.size, 0, none⟩ (by simp [Program.arrayLen, Program.elem, Tryz.underlying141]) .i64 (Lib.nDigits u : Int) (by omega) (by rw [hal]; omega)]
      rw [hal]
      rfl
    have hH0 := Lib.holds_zero0 w 141 (Lib.nDigits u) (by omega)
    have hfmt : Calls Tryz.prog 84 _ _ _ := Any.internal_strconv_formatBase10 { lays171 with } w.heap.size 0 24 u (Array.replicate (Lib.nDigits u) 0) (w.alloc (.cells Lib.zeros24 141)) hH0 (by rw [Array.size_replicate]; exact Lib.lt_pow_nDigits u) hu64 (by rw [Array.size_replicate]; omega)
    rw [Array.size_replicate] at hfmt
    have ND : Calls Tryz.prog 83 #[.int .u64 (u : Int)] (w.alloc (.cells Lib.zeros24 141)) fun e w' => e = .returned (.int .i64 (Lib.nDigits u)) ∧ w.alloc (.cells Lib.zeros24 141) = w' := (Any.internal_strconv_numDigits { lays171 with } u hu1 hu64 _ (Lib.tabIs_alloc htab _)).mono (fun e w' h => ⟨h.1, h.2.symm⟩)
    have HH0 : Hid _ := hH0
    clear hH0 hal hg htab
    go_enter Tryz.func60, Tryz.ntmps60
    go_wp2_with fail
    refine ND.mono ?_
    rintro ex w1 ⟨rfl, rfl⟩
    go_wp2_with fail
    refine hfmt.mono ?_
    rintro e w' ⟨rfl, k, v', dk, rfl, hF⟩
    have hcv : (convert 52 9 (.slice (some ⟨w.heap.size, 0, none⟩) (Lib.nDigits u) 24)).run Tryz.prog ((Go.Sort.putRow (fun (b : UInt8) => Value.int .u8 (b.toNat : Int)) (w.alloc (.cells Lib.zeros24 141)) w.heap.size 0 dk).drewN k) = .ok (.string ⟨(Lib.decDigits u).toArray⟩) ((Go.Sort.putRow (fun (b : UInt8) => Value.int .u8 (b.toNat : Int)) (w.alloc (.cells Lib.zeros24 141)) w.heap.size 0 dk).drewN k) := by
      have h := run_convert_bytes_back (P := Tryz.prog) ((Go.Sort.putRow (fun (b : UInt8) => Value.int .u8 (b.toNat : Int)) (w.alloc (.cells Lib.zeros24 141)) w.heap.size 0 dk).drewN k) 52 9 5 ⟨w.heap.size, 0, none⟩ 24 (Lib.decDigits u) Tryz.underlying52 Tryz.underlying5 Tryz.underlying9 (fun j hj => by
        rw [Lib.row_is_numeral hF j hj, Lib.add_plain, World.cell?_drewN]
        exact Go.Sort.cell?_putRow (fun (b : UInt8) => Value.int .u8 (b.toNat : Int)) _ w.heap.size 0 _ dk HH0.out (by rw [hF.size, Array.size_replicate]) j (by rw [hF.size]; rw [Lib.decDigits_length] at hj; exact hj))
      rw [Lib.decDigits_length] at h
      exact h
    obtain ⟨os, eo⟩ := Lib.fin_at w (.cells Lib.zeros24 141) dk k 0
    have KK := grow_keeps eo
    generalize (Go.Sort.putRow (fun (b : UInt8) => Value.int .u8 (b.toNat : Int)) (w.alloc (.cells Lib.zeros24 141)) w.heap.size 0 dk).drewN k = X at *
    clear hfmt ND HH0 eo
    go_wp2_with fail
    go_ret
    exact ⟨rfl, KK⟩
theorem fmt_any (u : Nat) (hu64 : u < 18446744073709551616) (w : World) (hg : Gp w) : Calls Tryz.prog 37 #[.int .u64 (u : Int), .int .i64 10] w fun e w' => e = .returned (.string ⟨(Lib.decDigits u).toArray⟩) ∧ Keeps (fun _ => False) w w' := by
  have I := ifmt_any u hu64 w hg
  clear hg
  go_enter Tryz.func37, Tryz.ntmps37
  go_wp2_with fail
  refine I.mono ?_
  rintro ex w1 ⟨rfl, k1⟩
  go_wp2_with fail
  go_ret
  exact ⟨rfl, k1⟩

/-- What ParseUint answers, as values: the number, and nil or some error. -/
def PuPost (M : Nat) (l : List UInt8) (ex : Ending) : Prop := ∃ x, ex = .returned (.tuple #[.int .u64 ((parR M l).1 : Int), x]) ∧ (((parR M l).2 = true ∧ x = .nilIface) ∨ ((parR M l).2 = false ∧ ∃ t p, x = .iface t (.pointer (some p))))
theorem parR_B (B M : Nat) (hB : 2 ^ B - 1 = M) (l : List UInt8) : parR M l = match Lib.parseUintB B l with
    | .ok u => (u, true)
    | .syntax => (0, false)
    | .range => (M, false) := by
  unfold parR Lib.parseUintB
  rw [hB]
  cases (if l = [] then Lib.NumEnd.syntax else Lib.parseUintM M 0 l) <;> rfl
theorem parse64_any (l : List UInt8) (hl : l.length ≤ 200000) (w : World) (hg : Gq w) : Calls Tryz.prog 90 #[.string ⟨l.toArray⟩, .int .i64 10, .int .i64 64] w fun ex w' => PuPost m64 l ex ∧ Keeps (fun _ => False) w w' := by
  have hs : (⟨l.toArray⟩ : ByteArray).data.toList = l := by simp
  unfold PuPost
  rw [parR_B 64 m64 (by decide)]
  cases hp : Lib.parseUintB 64 l with
  | ok u =>
    refine (Any.strconv_ParseUint_10_at64_ok layspu14 ⟨l.toArray⟩ (by rw [size_of]; omega) u (by rw [hs]; exact hp) w).mono ?_
    rintro ex w' ⟨rfl, h⟩
    refine ⟨⟨_, rfl, .inl ⟨rfl, rfl⟩⟩, ?_⟩
    rcases h with rfl | rfl
    · exact Keeps.refl _ _
    · exact Keeps.of_below (Lib.bytesWorld_below _ _ _) _
  | «syntax» =>
    obtain ⟨tp, p, hc⟩ := hg.esy
    refine (Any.strconv_ParseUint_10_at64_syntax layspu14 ⟨l.toArray⟩ (by rw [size_of]; omega) (by rw [hs]; exact hp) (.iface tp p) w hc (.inr ⟨tp, p, rfl⟩)).mono ?_
    rintro ex w' ⟨N, rfl, _, _, h⟩
    exact ⟨⟨_, rfl, .inr ⟨rfl, _, _, rfl⟩⟩, Keeps.of_below h _⟩
  | range =>
    obtain ⟨tp, p, hc⟩ := hg.erg
    refine (Any.strconv_ParseUint_10_at64_range layspu14 ⟨l.toArray⟩ (by rw [size_of]; omega) (by rw [hs]; exact hp) (.iface tp p) w hc (.inr ⟨tp, p, rfl⟩)).mono ?_
    rintro ex w' ⟨N, rfl, _, _, h⟩
    exact ⟨⟨_, rfl, .inr ⟨rfl, _, _, rfl⟩⟩, Keeps.of_below h _⟩
theorem parse32_any (l : List UInt8) (hl : l.length ≤ 200000) (w : World) (hg : Gq w) : Calls Tryz.prog 90 #[.string ⟨l.toArray⟩, .int .i64 10, .int .i64 32] w fun ex w' => PuPost m32 l ex ∧ Keeps (fun _ => False) w w' := by
  have hs : (⟨l.toArray⟩ : ByteArray).data.toList = l := by simp
  unfold PuPost
  rw [parR_B 32 m32 (by decide)]
  cases hp : Lib.parseUintB 32 l with
  | ok u =>
    refine (Any.strconv_ParseUint_10_at32_ok layspu14 ⟨l.toArray⟩ (by rw [size_of]; omega) u (by rw [hs]; exact hp) w).mono ?_
    rintro ex w' ⟨rfl, h⟩
    refine ⟨⟨_, rfl, .inl ⟨rfl, rfl⟩⟩, ?_⟩
    rcases h with rfl | rfl
    · exact Keeps.refl _ _
    · exact Keeps.of_below (Lib.bytesWorld_below _ _ _) _
  | «syntax» =>
    obtain ⟨tp, p, hc⟩ := hg.esy
    refine (Any.strconv_ParseUint_10_at32_syntax layspu14 ⟨l.toArray⟩ (by rw [size_of]; omega) (by rw [hs]; exact hp) (.iface tp p) w hc (.inr ⟨tp, p, rfl⟩)).mono ?_
    rintro ex w' ⟨N, rfl, _, _, h⟩
    exact ⟨⟨_, rfl, .inr ⟨rfl, _, _, rfl⟩⟩, Keeps.of_below h _⟩
  | range =>
    obtain ⟨tp, p, hc⟩ := hg.erg
    refine (Any.strconv_ParseUint_10_at32_range layspu14 ⟨l.toArray⟩ (by rw [size_of]; omega) (by rw [hs]; exact hp) (.iface tp p) w hc (.inr ⟨tp, p, rfl⟩)).mono ?_
    rintro ex w' ⟨N, rfl, _, _, h⟩
    exact ⟨⟨_, rfl, .inr ⟨rfl, _, _, rfl⟩⟩, Keeps.of_below h _⟩
end Go.Proofs.YtppejcfghlpbjaaGreatDoor
