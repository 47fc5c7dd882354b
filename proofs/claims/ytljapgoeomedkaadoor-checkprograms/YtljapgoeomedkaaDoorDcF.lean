
/- Lists of blocks of the call's own. No statement of the seat is proved here. -/
import Derived.Test.YtljapgoeomedkaaDoorDcB
namespace Go.Proofs.YtljapgoeomedkaaDoor
open Go.RowKit Go.Shelf

/-- Ways from a begin up to the first end or abort. -/
inductive Blk (p : List I5) (b : Nat) : Nat → Prop
  | start : Blk p b b
  | step {a c : Nat} : Blk p b a → (at5 p a).op ≠ 15 → (at5 p a).op ≠ 16 → c ∈ folL (at5 p a) a → Blk p b c
open Classical in
noncomputable def blkB (p : List I5) (b a : Nat) : Bool := decide (Blk p b a)
theorem blkB_iff {p : List I5} {b a : Nat} : blkB p b a = true ↔ Blk p b a := by unfold blkB; simp
noncomputable def blkL (p : List I5) (b : Nat) (o : Int) : List Nat := (List.range p.length).filter fun k => blkB p b k && decide ((at5 p k).op = o)
theorem blk_lt {p : List I5} (hv : (verd p).2 = 0) {b : Nat} (hr : Reach p b false) (ho : (at5 p b).op = 12) {a : Nat} (h : Blk p b a) : a = b ∨ Reach p a true := by
  obtain ⟨_, _, _, _, hm, _⟩ := verd_facts2 hv
  induction h with
  | start => exact .inl rfl
  | @step a c _ h15 h16 hc ih =>
    right
    rcases ih with rfl | ih
    · obtain ⟨hlt, hg⟩ := reach_goes hv hr
      have := Reach.step hr (at5_some hlt) hc (hg c hc)
      rw [ho] at this
      exact this
    · obtain ⟨hlt, hg⟩ := reach_goes hv ih
      have := Reach.step ih (at5_some hlt) hc (hg c hc)
      have hs : sideB (at5 p a).op true = true := by
        unfold sideB
        split
        · rfl
        · rw [if_neg (by omega)]
      rwa [hs] at this
theorem blk_in {p : List I5} (hv : (verd p).2 = 0) {b : Nat} (hr : Reach p b false) (ho : (at5 p b).op = 12) {a : Nat} (h : Blk p b a) : a < p.length ∧ ∀ c ∈ folL (at5 p a) a, c < p.length := by
  rcases blk_lt hv hr ho h with rfl | h
  · exact reach_goes hv hr
  · exact reach_goes hv h
/-- While ways are gone along: the places come to so far behind the begin. -/
structure BW (p : List I5) (b : Nat) (M : List Nat) : Prop where
  blk : ∀ m ∈ M, Blk p b m
  nodup : M.Nodup
def BShut (p : List I5) (b : Nat) (M : List Nat) (k : Nat) : Prop := ∀ x ∈ (b :: M).take k, (at5 p x).op ≠ 15 → (at5 p x).op ≠ 16 → ∀ c ∈ folL (at5 p x) x, c ∈ M
theorem BW.push {p : List I5} {b : Nat} {M : List Nat} (h : BW p b M) {a c : Nat} (ha : Blk p b a) (h15 : (at5 p a).op ≠ 15) (h16 : (at5 p a).op ≠ 16) (hc : c ∈ folL (at5 p a) a) (hn : c ∉ M) : BW p b (M ++ [c]) := by
  refine ⟨fun m hm => ?_, ?_⟩
  · rcases List.mem_append.1 hm with hm | hm
    · exact h.blk m hm
    · simp at hm; subst hm; exact .step ha h15 h16 hc
  · rw [List.nodup_append]
    refine ⟨h.nodup, by simp, ?_⟩
    intro y hy z hz e
    simp at hz
    subst hz; subst e
    exact hn hy
theorem BShut.push {p : List I5} {b : Nat} {M : List Nat} {k : Nat} (h : BShut p b M k) (hk : k ≤ (b :: M).length) (c : Nat) : BShut p b (M ++ [c]) k := by
  intro x hx h15 h16 y hy
  rw [← List.cons_append, List.take_append_of_le_length hk] at hx
  exact List.mem_append_left _ (h x hx h15 h16 y hy)
theorem BShut.more {p : List I5} {b : Nat} {M : List Nat} {k : Nat} (h : BShut p b M k) {a : Nat} (hk : (b :: M)[k]? = some a) (hc : (at5 p a).op ≠ 15 → (at5 p a).op ≠ 16 → ∀ c ∈ folL (at5 p a) a, c ∈ M) : BShut p b M (k + 1) := by
  intro x hx
  obtain ⟨hkl, he⟩ := List.getElem?_eq_some_iff.1 hk
  rw [List.take_succ_eq_append_getElem hkl] at hx
  rcases List.mem_append.1 hx with hx | hx
  · exact h x hx
  · simp [he] at hx; subst hx; exact hc
theorem BShut.all {p : List I5} {b : Nat} {M : List Nat} (hw : BW p b M) (h : BShut p b M (b :: M).length) (a : Nat) : Blk p b a ↔ a ∈ b :: M := by
  constructor
  · intro ha
    induction ha with
    | start => simp
    | step _ h15 h16 hc ih => exact List.mem_cons_of_mem _ (h _ (by rw [List.take_length]; exact ih) h15 h16 _ hc)
  · intro ha
    rcases List.mem_cons.1 ha with rfl | ha
    · exact .start
    · exact hw.blk a ha
/-- Numbers that are there once each, sorted. -/
theorem sort_range {E : List Nat} {n : Nat} {f : Nat → Bool} (hn : E.Nodup) (hm : ∀ x, x ∈ E ↔ x < n ∧ f x = true) : (E.map fun (x : Nat) => (x : Int)).mergeSort (fun x y => decide (x ≤ y)) = ((List.range n).filter f).map fun (x : Nat) => (x : Int) := by
  have hp : E.Perm ((List.range n).filter f) := (List.perm_ext_iff_of_nodup hn (List.nodup_range.filter _)).2 fun x => by
    rw [hm, List.mem_filter, List.mem_range]
  have h1 := (List.mergeSort_perm (E.map fun (x : Nat) => (x : Int)) (fun x y => decide (x ≤ y))).trans (hp.map _)
  refine List.Perm.eq_of_pairwise (le := fun x y : Int => x ≤ y) ?_ ?_ ?_ h1
  · intro x y _ _ h1 h2; omega
  · have := List.pairwise_mergeSort (le := fun x y : Int => decide (x ≤ y)) (fun a b c h1 h2 => by simp at *; omega) (fun a b => by simp; omega) (E.map fun (x : Nat) => (x : Int))
    exact this.imp fun h => by simpa using h
  · rw [List.pairwise_map]
    exact ((List.pairwise_lt_range.filter _)).imp fun h => by omega
theorem blk_sorted {p : List I5} (hv : (verd p).2 = 0) {b : Nat} (hr : Reach p b false) (ho : (at5 p b).op = 12) {M : List Nat} (hw : BW p b M) (h : BShut p b M (b :: M).length) (o : Int) (ho2 : o ≠ 12) :
    (((b :: M).filter fun x => decide ((at5 p x).op = o)).map fun (x : Nat) => (x : Int)).mergeSort (fun x y => decide (x ≤ y)) = (blkL p b o).map fun (x : Nat) => (x : Int) := by
  have e : (b :: M).filter (fun x => decide ((at5 p x).op = o)) = M.filter fun x => decide ((at5 p x).op = o) := by
    rw [List.filter_cons_of_neg]
    simp [ho]; omega
  rw [e]
  refine sort_range (hw.nodup.filter _) fun x => ?_
  rw [List.mem_filter, Bool.and_eq_true, blkB_iff, BShut.all hw h]
  simp only [List.mem_cons, decide_eq_true_eq]
  constructor
  · rintro ⟨h1, h2⟩
    exact ⟨(blk_in hv hr ho (hw.blk x h1)).1, .inr h1, h2⟩
  · rintro ⟨_, h1 | h1, h2⟩
    · subst h1; omega
    · exact ⟨h1, h2⟩
end Go.Proofs.YtljapgoeomedkaaDoor
namespace Go.Proofs.YtljapgoeomedkaaDoor
open Go.RowKit Go.Shelf

theorem Its.apart_grow {W W' : World} {base : Nat} {u v v' : Value} {L : List Int} (hu : Its W base u L) (g : Grew W W' v v') (hne : ∀ q, u.ownBlock = some q → v.ownBlock ≠ some q) : Its W' base u L ∧ ∀ q, u.ownBlock = some q → v'.ownBlock ≠ some q := by
  refine ⟨hu.keeps g.keeps (fun q hq e => hne q hq e), fun q hq e => ?_⟩
  rcases g.own with ho | ho
  · exact hne q hq (ho ▸ e)
  · have h1 := ho q e
    have h2 := (own_block hu.own hq).1
    omega
theorem Its.base_le {w : World} {b b' : Nat} {v : Value} {L : List Int} (h : Its w b v L) (hb : b' ≤ b) : Its w b' v L :=
  ⟨⟨h.own.1, by
    rcases h.own.2 with h2 | ⟨g, cap, cur, hv, h1, h2⟩
    · exact .inl h2
    · exact .inr ⟨g, cap, cur, hv, Nat.le_trans hb h1, h2⟩⟩, Nat.le_trans hb h.base⟩
theorem Its.one (w : World) (x : Int) : Its (w.alloc (.cells #[.int .i64 x] 3)) w.heap.size (.slice (some ⟨w.heap.size, 0, none⟩) 1 1) [x] :=
  ⟨⟨rfl, .inr ⟨w.heap.size, 1, _, rfl, Nat.le_refl _, heap_alloc_new _ _, Nat.le_refl _, by decide, rfl, rfl⟩⟩, by simp⟩
/-- Where one has been. -/
def Bn (w : World) (g n : Nat) (M : List Nat) : Prop := ∃ c, w.heap[g]? = some (.cells c 4 (0, 0)) ∧ c.size = n ∧ ∀ a, a < n → c[a]? = some (.bool (decide (a ∈ M)))
theorem Bn.keeps {w w' : World} {g n : Nat} {M : List Nat} {S : Nat → Prop} (h : Bn w g n M) (k : Keeps S w w') (hs : ¬ S g) : Bn w' g n M := by
  obtain ⟨c, h1, h2, h3⟩ := h
  exact ⟨c, (k.block g (lt_of_block h1) hs).trans h1, h2, h3⟩
theorem Bn.cell {w : World} {g n : Nat} {M : List Nat} (h : Bn w g n M) {a : Nat} (ha : a < n) : w.cell? ⟨g, a, none⟩ = some (.bool (decide (a ∈ M))) := by
  obtain ⟨c, h1, h2, h3⟩ := h
  rw [cell_of_block h1]; exact h3 a ha
theorem Bn.frozen {w : World} {g n : Nat} {M : List Nat} (h : Bn w g n M) (i : Nat) : w.frozen? ⟨g, i, none⟩ = false := by
  obtain ⟨c, h1, _⟩ := h; exact frozen_of_block h1 i
theorem Bn.lt {w : World} {g n : Nat} {M : List Nat} (h : Bn w g n M) : g < w.heap.size := by
  obtain ⟨c, h1, _⟩ := h; exact lt_of_block h1
theorem Bn.mark {w : World} {g n : Nat} {M : List Nat} (h : Bn w g n M) {b : Nat} (hb : b < n) : Bn (w.setCell ⟨g, b, none⟩ (.bool true)) g n (M ++ [b]) := by
  obtain ⟨c, h1, h2, h3⟩ := h
  refine ⟨_, block_set h1 _ _, by simpa using h2, fun a ha => ?_⟩
  rw [Array.getElem?_setIfInBounds]
  by_cases hab : b = a
  · subst hab; rw [if_pos rfl, if_pos (by omega)]; simp
  · rw [if_neg hab, h3 a ha]
    simp [Ne.symm hab]
theorem info_bl : (Tryd.prog.info? 4).map (fun i => (i.zero, i.size, i.bytes)) = some (some (.bool false), 1, 1) := by kernel_rfl
theorem run_bl (w : World) (n : Nat) (h1 : n ≤ 65536) :
    ∃ x : Array Value, (Instr.makeSlice 69 (.int .i64 (n : Int)) (.int .i64 (n : Int))).run Tryd.prog w = .ok (.slice (some ⟨w.heap.size, 0, none⟩) n n) (w.alloc (.cells x 4)) ∧ Bn (w.alloc (.cells x 4)) w.heap.size n [] := by
  obtain ⟨i0, hi, hz0, hz1, hz2⟩ := info_parts info_bl
  have h := run_make (P := Tryd.prog) w 69 4 i0 (.bool false) Tryd.underlying69 hi hz0 .i64 .i64 (n : Int) (n : Int) (by omega) (Int.le_refl _) (by rw [hz2]; omega) (by omega)
  rw [hz1, Nat.mul_one, Int.toNat_natCast] at h
  refine ⟨_, h, _, heap_alloc_new _ _, by simp [madeCells], fun j hj => ?_⟩
  simp [madeCells, Value.cells, hj, Nat.mod_one]
def castL (L : List Nat) : List Int := L.map fun (x : Nat) => (x : Int)
def selO (p : List I5) (o : Int) (L : List Nat) : List Nat := L.filter fun x => decide ((at5 p x).op = o)
/-- What stands while the ways of a block are gone along. -/
structure SpM (p : List I5) (b : Nat) (w W : World) (u vE vA : Value) (M : List Nat) (k : Nat) : Prop where
  kp : Keeps (fun _ => False) w W
  res : W.heap[w.heap.size]? = some (.cells #[.int .i64 0, .slice none 0 0, .slice none 0 0] 79 (0, 0))
  sp : W.heap[w.heap.size + 1]? = some (.cells #[.int .i64 b, vE, vA] 79 (0, 0))
  been : Bn W (w.heap.size + 2) p.length M
  lst : Its W (w.heap.size + 3) u (castL (b :: M))
  ends : Its W (w.heap.size + 3) vE (castL (selO p 15 ((b :: M).take k)))
  aborts : Its W (w.heap.size + 3) vA (castL (selO p 16 ((b :: M).take k)))
  a1 : ∀ q, u.ownBlock = some q → vE.ownBlock ≠ some q
  a2 : ∀ q, u.ownBlock = some q → vA.ownBlock ≠ some q
  a3 : ∀ q, vE.ownBlock = some q → vA.ownBlock ≠ some q
theorem grew_keeps {w W W' : World} {v v' : Value} {L : List Int} {b : Nat} (g : Grew W W' v v') (k : Keeps (fun _ => False) w W) (h : Its W b v L) (hb : w.heap.size ≤ b) : Keeps (fun _ => False) w W' :=
  ⟨g.keeps.os.trans k.os, g.keeps.tape.trans k.tape, g.keeps.output.trans k.output, Nat.le_trans k.size g.keeps.size, fun q hq hs => (g.keeps.block q (Nat.lt_of_lt_of_le hq k.size) fun e => by
    have := (own_block h.own e).2; omega).trans (k.block q hq hs)⟩
theorem SpM.up {p : List I5} {b : Nat} {w W W' : World} {u vE vA : Value} {M : List Nat} {k : Nat} (h : SpM p b w W u vE vA M k) (kk : Keeps (fun _ => False) W W') : SpM p b w W' u vE vA M k :=
  ⟨h.kp.trans kk, (kk.block _ (lt_of_block h.res) (fun f => f)).trans h.res, (kk.block _ (lt_of_block h.sp) (fun f => f)).trans h.sp, h.been.keeps kk (fun f => f), h.lst.keeps kk (fun _ _ f => f), h.ends.keeps kk (fun _ _ f => f), h.aborts.keeps kk (fun _ _ f => f), h.a1, h.a2, h.a3⟩
/-- The list grows. -/
theorem SpM.list {p : List I5} {b : Nat} {w W W2 W' : World} {u u' vE vA : Value} {M : List Nat} {k : Nat} (h : SpM p b w W u vE vA M k) (hk : k ≤ (b :: M).length) {c : Nat} (hc : c < p.length) (hW2 : W2 = W.setCell ⟨w.heap.size + 2, c, none⟩ (.bool true)) (hI : Its W' (w.heap.size + 3) u' (castL (b :: M) ++ [(c : Int)])) (g : Grew W2 W' u u') : SpM p b w W' u' vE vA (M ++ [c]) k := by
  have k2 : Keeps (fun q => q = w.heap.size + 2) W W2 := by rw [hW2]; exact (Keeps.refl (fun q => q = w.heap.size + 2) W).setCell (p := ⟨w.heap.size + 2, c, none⟩) (.inr rfl) _
  have own3 : ∀ {v : Value} {L : List Int}, Its W (w.heap.size + 3) v L → ∀ q, v.ownBlock = some q → w.heap.size + 3 ≤ q := fun hv q hq => (own_block hv.own hq).2
  have K2 : Keeps (fun _ => False) w W2 := by rw [hW2]; exact h.kp.setCell (p := ⟨w.heap.size + 2, c, none⟩) (.inl (by simp)) _
  have l2 := h.lst.keeps k2 (fun q hq e => by have := own3 h.lst q hq; omega)
  have e2 := h.ends.keeps k2 (fun q hq e => by have := own3 h.ends q hq; omega)
  have a2 := h.aborts.keeps k2 (fun q hq e => by have := own3 h.aborts q hq; omega)
  have b2 : Bn W2 (w.heap.size + 2) p.length (M ++ [c]) := by rw [hW2]; exact h.been.mark hc
  have r2 := (k2.block _ (lt_of_block h.res) (by omega)).trans h.res
  have s2 := (k2.block _ (lt_of_block h.sp) (by omega)).trans h.sp
  have nb : ∀ q, q < w.heap.size + 3 → u.ownBlock ≠ some q := fun q hq e => by have := own3 h.lst q e; omega
  obtain ⟨e3, ae⟩ := e2.apart_grow g (fun q hq e => h.a1 q e hq)
  obtain ⟨a3, aa⟩ := a2.apart_grow g (fun q hq e => h.a2 q e hq)
  have ht : (b :: (M ++ [c])).take k = (b :: M).take k := by rw [← List.cons_append, List.take_append_of_le_length hk]
  refine ⟨grew_keeps g K2 l2 (by omega), (g.keeps.block _ (lt_of_block r2) (nb _ (by omega))).trans r2, (g.keeps.block _ (lt_of_block s2) (nb _ (by omega))).trans s2, b2.keeps g.keeps (nb _ (by omega)), by simpa [castL] using hI, by rw [ht]; exact e3, by rw [ht]; exact a3, fun q hq e => ae q e hq, fun q hq e => aa q e hq, h.a3⟩
/-- An end, or an abort, is noted. -/
theorem SpM.note1 {p : List I5} {b : Nat} {w W W1 : World} {u vE vE' vA : Value} {M : List Nat} {k a : Nat} (h : SpM p b w W u vE vA M k) (hk : (b :: M)[k]? = some a) (ho : (at5 p a).op = 15) (hI : Its W1 (w.heap.size + 3) vE' (castL (selO p 15 ((b :: M).take k)) ++ [(a : Int)])) (g : Grew W W1 vE vE') : SpM p b w (W1.setCell ⟨w.heap.size + 1, 1, none⟩ vE') u vE' vA M (k + 1) := by
  obtain ⟨hkl, he⟩ := List.getElem?_eq_some_iff.1 hk
  have t15 : selO p 15 ((b :: M).take (k + 1)) = selO p 15 ((b :: M).take k) ++ [a] := by
    rw [List.take_succ_eq_append_getElem hkl, he]; unfold selO; rw [List.filter_append]; simp [ho]
  have t16 : selO p 16 ((b :: M).take (k + 1)) = selO p 16 ((b :: M).take k) := by
    rw [List.take_succ_eq_append_getElem hkl, he]; unfold selO; rw [List.filter_append]; simp [ho]
  have own3 : ∀ q, vE.ownBlock = some q → w.heap.size + 3 ≤ q := fun q hq => (own_block h.ends.own hq).2
  have nb : ∀ q, q < w.heap.size + 3 → vE.ownBlock ≠ some q := fun q hq e => by have := own3 q e; omega
  have K1 := grew_keeps g h.kp h.ends (by omega)
  obtain ⟨l1, al⟩ := h.lst.apart_grow g h.a1
  obtain ⟨a1, aa⟩ := h.aborts.apart_grow g (fun q hq e => h.a3 q e hq)
  have r1 := (g.keeps.block _ (lt_of_block h.res) (nb _ (by omega))).trans h.res
  have s1 := (g.keeps.block _ (lt_of_block h.sp) (nb _ (by omega))).trans h.sp
  have b1 := h.been.keeps g.keeps (nb _ (by omega))
  have ks := (Keeps.refl (fun q => q = w.heap.size + 1) W1).setCell (p := ⟨w.heap.size + 1, 1, none⟩) (.inr rfl) vE'
  have o1 : ∀ {v : Value} {L : List Int}, Its W1 (w.heap.size + 3) v L → ∀ q, v.ownBlock = some q → ¬ q = w.heap.size + 1 := fun hv q hq e => by have := (own_block hv.own hq).2; omega
  refine ⟨K1.setCell (.inl (by simp)) _, (ks.block _ (lt_of_block r1) (by omega)).trans r1, block_set s1 1 vE', b1.keeps ks (by omega), l1.keeps ks (o1 l1), ?_, ?_, al, h.a2, fun q hq e => aa q e hq⟩
  · rw [t15]
    have := hI.keeps ks (o1 hI)
    simpa [castL] using this
  · rw [t16]; exact a1.keeps ks (o1 a1)
theorem SpM.note2 {p : List I5} {b : Nat} {w W W1 : World} {u vE vA vA' : Value} {M : List Nat} {k a : Nat} (h : SpM p b w W u vE vA M k) (hk : (b :: M)[k]? = some a) (ho : (at5 p a).op = 16) (hI : Its W1 (w.heap.size + 3) vA' (castL (selO p 16 ((b :: M).take k)) ++ [(a : Int)])) (g : Grew W W1 vA vA') : SpM p b w (W1.setCell ⟨w.heap.size + 1, 2, none⟩ vA') u vE vA' M (k + 1) := by
  obtain ⟨hkl, he⟩ := List.getElem?_eq_some_iff.1 hk
  have t16 : selO p 16 ((b :: M).take (k + 1)) = selO p 16 ((b :: M).take k) ++ [a] := by
    rw [List.take_succ_eq_append_getElem hkl, he]; unfold selO; rw [List.filter_append]; simp [ho]
  have t15 : selO p 15 ((b :: M).take (k + 1)) = selO p 15 ((b :: M).take k) := by
    rw [List.take_succ_eq_append_getElem hkl, he]; unfold selO; rw [List.filter_append]; simp [ho]
  have own3 : ∀ q, vA.ownBlock = some q → w.heap.size + 3 ≤ q := fun q hq => (own_block h.aborts.own hq).2
  have nb : ∀ q, q < w.heap.size + 3 → vA.ownBlock ≠ some q := fun q hq e => by have := own3 q e; omega
  have K1 := grew_keeps g h.kp h.aborts (by omega)
  obtain ⟨l1, al⟩ := h.lst.apart_grow g h.a2
  obtain ⟨e1, ae⟩ := h.ends.apart_grow g h.a3
  have r1 := (g.keeps.block _ (lt_of_block h.res) (nb _ (by omega))).trans h.res
  have s1 := (g.keeps.block _ (lt_of_block h.sp) (nb _ (by omega))).trans h.sp
  have b1 := h.been.keeps g.keeps (nb _ (by omega))
  have ks := (Keeps.refl (fun q => q = w.heap.size + 1) W1).setCell (p := ⟨w.heap.size + 1, 2, none⟩) (.inr rfl) vA'
  have o1 : ∀ {v : Value} {L : List Int}, Its W1 (w.heap.size + 3) v L → ∀ q, v.ownBlock = some q → ¬ q = w.heap.size + 1 := fun hv q hq e => by have := (own_block hv.own hq).2; omega
  refine ⟨K1.setCell (.inl (by simp)) _, (ks.block _ (lt_of_block r1) (by omega)).trans r1, block_set s1 2 vA', b1.keeps ks (by omega), l1.keeps ks (o1 l1), ?_, ?_, h.a1, al, ae⟩
  · rw [t15]; exact e1.keeps ks (o1 e1)
  · rw [t16]
    have := hI.keeps ks (o1 hI)
    simpa [castL] using this
end Go.Proofs.YtljapgoeomedkaaDoor
namespace Go.Proofs.YtljapgoeomedkaaDoor
open Go.RowKit Go.Shelf

/-- What span answers. -/
def SnPost (p : List I5) (b : Nat) (w : World) (e : Ending) (w' : World) : Prop := ∃ vE vA : Value, e = .returned (.agg #[.int .i64 b, vE, vA]) ∧ Keeps (fun _ => False) w w' ∧ Its w' w.heap.size vE (castL (blkL p b 15)) ∧ Its w' w.heap.size vA (castL (blkL p b 16)) ∧ ∀ q, vE.ownBlock = some q → vA.ownBlock ≠ some q
theorem SpM.begin {p : List I5} {b : Nat} {w W : World} {x : Array Value} (hW : W = (w.alloc (.cells #[.int .i64 0, .slice none 0 0, .slice none 0 0] 79)).alloc (.cells #[.int .i64 b, .slice none 0 0, .slice none 0 0] 79)) (hB : Bn (W.alloc (.cells x 4)) W.heap.size p.length []) :
    SpM p b w ((W.alloc (.cells x 4)).alloc (.cells #[.int .i64 b] 3)) (.slice (some ⟨w.heap.size + 3, 0, none⟩) 1 1) (.slice none 0 0) (.slice none 0 0) [] 0 := by
  have hs : W.heap.size = w.heap.size + 2 := by rw [hW]; simp
  have kW : Keeps (fun _ => False) w W := by rw [hW]; exact ((Keeps.refl _ _).alloc _).alloc _
  have k2 : Keeps (fun _ => False) W ((W.alloc (.cells x 4)).alloc (.cells #[.int .i64 b] 3)) := ((Keeps.refl _ _).alloc _).alloc _
  have r0 : W.heap[w.heap.size]? = some (.cells #[.int .i64 0, .slice none 0 0, .slice none 0 0] 79 (0, 0)) := by
    rw [hW]; exact (Below.heap_alloc _ _ _ (by simp)).trans (MapKept.heap_alloc _ _).1
  have s0 : W.heap[w.heap.size + 1]? = some (.cells #[.int .i64 b, .slice none 0 0, .slice none 0 0] 79 (0, 0)) := by
    have := (MapKept.heap_alloc (w.alloc (.cells #[.int .i64 0, .slice none 0 0, .slice none 0 0] 79)) (.cells #[.int .i64 b, .slice none 0 0, .slice none 0 0] 79)).1
    rw [hW]; simpa using this
  have l0 := Its.one (W.alloc (.cells x 4)) (b : Int)
  have e3 : (W.alloc (.cells x 4)).heap.size = w.heap.size + 3 := by simp [hs]
  have n0 : Its ((W.alloc (.cells x 4)).alloc (.cells #[.int .i64 b] 3)) (w.heap.size + 3) (.slice none 0 0) [] := ((Its.nil (W.alloc (.cells x 4))).keeps ((Keeps.refl (fun _ => False) _).alloc (.cells #[.int .i64 b] 3)) (fun _ _ f => f)).base_le (by omega)
  rw [e3] at l0
  rw [hs] at hB
  exact ⟨kW.trans k2, (k2.block _ (lt_of_block r0) (fun f => f)).trans r0, (k2.block _ (lt_of_block s0) (fun f => f)).trans s0, hB.keeps ((Keeps.refl (fun _ => False) _).alloc _) (fun f => f), l0, n0, n0, fun q _ => by simp [Value.ownBlock], fun q _ => by simp [Value.ownBlock], fun q _ => by simp [Value.ownBlock]⟩

theorem nat_le {M : List Nat} {n : Nat} (hn : M.Nodup) (hm : ∀ x ∈ M, x < n) : M.length ≤ n := by
  exact nodup_le n M hn hm
theorem SpM.facts {p : List I5} {b : Nat} {w W : World} {u vE vA : Value} {M : List Nat} {k : Nat} (h : SpM p b w W u vE vA M k) : W.cell? ⟨w.heap.size + 1, 1, none⟩ = some vE ∧ W.cell? ⟨w.heap.size + 1, 2, none⟩ = some vA ∧ W.frozen? ⟨w.heap.size + 1, 1, none⟩ = false ∧ W.frozen? ⟨w.heap.size + 1, 2, none⟩ = false ∧ w.heap.size + 3 ≤ W.heap.size :=
  ⟨by rw [cell_of_block h.sp]; rfl, by rw [cell_of_block h.sp]; rfl, frozen_of_block h.sp 1, frozen_of_block h.sp 2, h.lst.base⟩
theorem SpM.still {p : List I5} {b : Nat} {w W W1 : World} {u vE vA v v' : Value} {M : List Nat} {k : Nat} {L : List Int} (h : SpM p b w W u vE vA M k) (hI : Its W (w.heap.size + 3) v L) (g : Grew W W1 v v') : W1.cell? ⟨w.heap.size + 1, 1, none⟩ = some vE ∧ W1.cell? ⟨w.heap.size + 1, 2, none⟩ = some vA ∧ W1.frozen? ⟨w.heap.size + 1, 1, none⟩ = false ∧ W1.frozen? ⟨w.heap.size + 1, 2, none⟩ = false := by
  have s1 := (g.keeps.block _ (lt_of_block h.sp) (fun e => by have := (own_block hI.own e).2; omega)).trans h.sp
  exact ⟨by rw [cell_of_block s1]; rfl, by rw [cell_of_block s1]; rfl, frozen_of_block s1 1, frozen_of_block s1 2⟩
theorem SpM.skip {p : List I5} {b : Nat} {w W : World} {u vE vA : Value} {M : List Nat} {k a : Nat} (h : SpM p b w W u vE vA M k) (hk : (b :: M)[k]? = some a) (h15 : (at5 p a).op ≠ 15) (h16 : (at5 p a).op ≠ 16) : SpM p b w W u vE vA M (k + 1) := by
  obtain ⟨hkl, he⟩ := List.getElem?_eq_some_iff.1 hk
  have t15 : selO p 15 ((b :: M).take (k + 1)) = selO p 15 ((b :: M).take k) := by
    rw [List.take_succ_eq_append_getElem hkl, he]; unfold selO; rw [List.filter_append]; simp [h15]
  have t16 : selO p 16 ((b :: M).take (k + 1)) = selO p 16 ((b :: M).take k) := by
    rw [List.take_succ_eq_append_getElem hkl, he]; unfold selO; rw [List.filter_append]; simp [h16]
  exact ⟨h.kp, h.res, h.sp, h.been, h.lst, by rw [t15]; exact h.ends, by rw [t16]; exact h.aborts, h.a1, h.a2, h.a3⟩
theorem size_span : (Tryd.prog.info? 79).map (·.size) = some 3 := by kernel_rfl
theorem row_keeps (w : World) (b : Nat) (cs : Array Value) : Keeps (fun q => q = b) w (w.setRow b cs) :=
  ⟨rfl, rfl, rfl, by simp [World.setRow], fun k hk hs => by simp [World.setRow, Array.getElem?_modify, show ¬ b = k by omega]⟩
theorem castL_len (L : List Nat) : (castL L).length = L.length := by simp [castL]
theorem castL_at (L : List Nat) (k : Nat) (h : k < (castL L).length) : (castL L)[k]'h = ((L[k]'(by simpa [castL] using h) : Nat) : Int) := by simp [castL]

set_option maxRecDepth 100000 in
set_option maxHeartbeats 4000000 in
theorem span_any (FA : FolOk) (v : Value) (p : List I5) (w : World) (h : InsAt w v p) (hv : (verd p).2 = 0) (b : Nat) (hr : Reach p b false) (ho : (at5 p b).op = 12) : Calls Tryd.prog 33 #[v, .int .i64 b] w (SnPost p b w) := by
  have HI : Hid (InsAt w v p) := h
  obtain ⟨hp, hl⟩ := verd_ok_len hv
  obtain ⟨⟨av, cap, rfl, hc⟩, hwf, hbig⟩ := h
  clear hc
  have HV : Hid ((verd p).2 = 0 ∧ Reach p b false ∧ (at5 p b).op = 12) := ⟨hv, hr, ho⟩
  clear hv hr ho
  obtain ⟨x, hmk, hB⟩ := run_bl ((w.alloc (.cells #[.int .i64 0, .slice none 0 0, .slice none 0 0] 79)).alloc (.cells #[.int .i64 b, .slice none 0 0, .slice none 0 0] 79)) p.length (by omega)
  have S0 := SpM.begin (p := p) (b := b) (w := w) rfl hB
  clear hB
  go_enter Tryd.func33, Tryd.ntmps33
  go_wp2_with fail
  go_step3
  go_wp2_with fail
  go_step3
  go_wp2_with fail
  clear hmk
  go_loopw [7, 8] (fun u m wr => ∃ (k : Nat) (M : List Nat) (vE vA : Value), m = .int .i64 k ∧ k ≤ M.length + 1 ∧ Hid (SpM p b w wr u vE vA M k ∧ BW p b M ∧ BShut p b M k)) (fun _ m _ => p.length + 1 - (intOf m).toNat)
  case atStart => exact ⟨0, [], _, _, rfl, by simp, ⟨S0, ⟨fun m hm => by simp at hm, by simp⟩, fun x hx => by simp at hx⟩⟩
  case round =>
    clear S0
    obtain ⟨k, M, vE, vA, rfl, hk, hh⟩ := hrel
    obtain ⟨hS, hW, hU⟩ := hh.out
    obtain ⟨ub, uc, rfl⟩ := hS.lst.form
    rw [castL_len, List.length_cons] at hS hh ⊢
    have hMl := nat_le hW.nodup (fun x hx => (blk_in HV.out.1 HV.out.2.1 HV.out.2.2 (hW.blk x hx)).1)
    obtain ⟨f1, f2, z1, z2, hsz⟩ := hS.facts
    by_cases hlt : k < M.length + 1
    · have hki : (k : Int) < (M.length : Int) + 1 := by omega
      obtain ⟨g, rfl, hg, c0⟩ := hS.lst.at k (by rw [castL_len]; simpa using hlt)
      rw [castL_at] at c0
      have hxe := List.getElem?_eq_getElem (l := b :: M) (i := k) (by simpa using hlt)
      have hxm := List.getElem_mem (l := b :: M) (n := k) (by simpa using hlt)
      generalize (b :: M)[k]'(by simpa using hlt) = a at *
      have hbk : Blk p b a := by
        rcases List.mem_cons.1 hxm with rfl | hxm
        · exact .start
        · exact hW.blk a hxm
      obtain ⟨hal, haf⟩ := blk_in HV.out.1 HV.out.2.1 HV.out.2.2 hbk
      obtain ⟨⟨av', cap', hv, hc⟩, -, -⟩ := HI.out.keeps hS.kp
      cases hv
      obtain ⟨pg, po, rfl, d0, d1, d2, d3, d4⟩ := hc a hal
      have hw5 := hwf _ (List.getElem_mem hal)
      have h5 : p[a]'hal = at5 p a := by simp [at5, hal]
      rw [h5] at d0 d1 d2 d3 d4 hw5
      have FL := FA (at5 p a) hw5 a (by omega)
      clear hc h5 hwf
      by_cases o15 : (at5 p a).op = 15
      · rw [o15] at d0
        obtain ⟨vE', W1, r1, I1, G1⟩ := hS.ends.push a (by
          have : (castL (selO p 15 ((b :: M).take k))).length ≤ k := by
            rw [castL_len]; unfold selO
            exact Nat.le_trans (List.length_filter_le _ _) (by simp; omega)
          omega)
        have S1 := hS.note1 hxe o15 I1 G1
        obtain ⟨y1, -, y2, -⟩ := hS.still hS.ends G1
        obtain ⟨eb, ln, ec, rfl⟩ : ∃ b n c, vE' = .slice b n c := by
          obtain ⟨b, c, h⟩ := I1.form
          exact ⟨_, _, _, h⟩
        have U1 := hU.more hxe (fun h => absurd o15 h)
        have HA : Hid (_ = _) := r1
        have HS : Hid (SpM p b w _ _ _ _ _ _ ∧ BW p b M ∧ BShut p b M (k + 1)) := ⟨S1, hW, U1⟩
        clear hh hS hW hU S1 U1 r1 I1 G1 FL
        go_wp2_with (at_builtin; refine wpList_append_run rfl _ _ 53 rfl rfl rfl HA.out ?_)
        go_roundw
        · exact ⟨k + 1, M, _, _, by simp, by omega, HS⟩
        · simp [intOf]; omega
      · by_cases o16 : (at5 p a).op = 16
        · rw [o16] at d0
          obtain ⟨vA', W1, r1, I1, G1⟩ := hS.aborts.push a (by
            have : (castL (selO p 16 ((b :: M).take k))).length ≤ k := by
              rw [castL_len]; unfold selO
              exact Nat.le_trans (List.length_filter_le _ _) (by simp; omega)
            omega)
          have S1 := hS.note2 hxe o16 I1 G1
          obtain ⟨-, y1, -, y2⟩ := hS.still hS.aborts G1
          obtain ⟨eb, ln, ec, rfl⟩ : ∃ b n c, vA' = .slice b n c := by
            obtain ⟨b, c, h⟩ := I1.form
            exact ⟨_, _, _, h⟩
          have U1 := hU.more hxe (fun _ h => absurd o16 h)
          have HA : Hid (_ = _) := r1
          have HS : Hid (SpM p b w _ _ _ _ _ _ ∧ BW p b M ∧ BShut p b M (k + 1)) := ⟨S1, hW, U1⟩
          clear hh hS hW hU S1 U1 r1 I1 G1 FL o15
          go_wp2_with (at_builtin; refine wpList_append_run rfl _ _ 53 rfl rfl rfl HA.out ?_)
          go_roundw
          · exact ⟨k + 1, M, _, _, by simp, by omega, HS⟩
          · simp [intOf]; omega
        · have m1 : ((at5 p a).op == 15) = false := by simp [o15]
          have m2 : ((at5 p a).op == 16) = false := by simp [o16]
          have HO : Hid ((at5 p a).op ≠ 15 ∧ (at5 p a).op ≠ 16) := ⟨o15, o16⟩
          have HX : Hid (SpM p b w wr (.slice (some ⟨g, 0, none⟩) (M.length + 1) uc) vE vA M k ∧ BW p b M ∧ BShut p b M k) := ⟨hS, hW, hU⟩
          have hfl := folL_len (at5 p a) a
          clear hh hS hW hU f1 f2 z1 z2
          generalize hi : at5 p a = i at *
          have HI5 : Hid (at5 p a = i) := hi
          obtain ⟨op, ia, ib, ic, n⟩ := i
          dsimp only at d0 d1 d2 d3 d4 m1 m2 o15 o16
          clear hi
          go_wp2_with fail
          refine (FL _).mono ?_
          rintro e w2 ⟨vF, rfl, hIt, hK2⟩
          obtain ⟨fb, fc, rfl⟩ := hIt.form
          rw [← HI5.out] at hIt haf hfl ⊢
          generalize hFL : folL (at5 p a) a = F at *
          rw [List.length_map] at hIt ⊢
          go_wp2_with fail
          have hgl : g < wr.heap.size := World.block_lt_of_cell? _ _ c0
          obtain ⟨hS, hW, hU⟩ := HX.out
          have S2 := hS.up hK2
          have ne2 : ∀ q, (Value.slice fb F.length fc).ownBlock = some q → (Value.slice (some ⟨g, 0, none⟩) (M.length + 1) uc).ownBlock ≠ some q := fun q hq e => by
            have h1 := (own_block hIt.own hq).2
            have h2 : g = q := by simpa [Value.ownBlock] using e
            omega
          have HO2 : Hid ((at5 p a).op ≠ 15 ∧ (at5 p a).op ≠ 16 ∧ folL (at5 p a) a = F) := ⟨by rw [HI5.out]; exact HO.out.1, by rw [HI5.out]; exact HO.out.2, hFL⟩
          clear hS HX hK2 FL hFL d0 d1 d2 d3 d4 c0 HO HI5 hw5 o15 o16 m1 m2 hgl hg
          generalize wr.heap.size = bs at *
          go_loopw [7, 57] (fun u m wr' => ∃ (j : Nat) (M' : List Nat), m = .int .i64 j ∧ j ≤ F.length ∧ Hid (SpM p b w wr' u vE vA M' k ∧ BW p b M' ∧ BShut p b M' k ∧ (b :: M')[k]? = some a ∧ Its wr' bs (.slice fb F.length fc) (F.map fun (n : Nat) => (n : Int)) ∧ (∀ q, (Value.slice fb F.length fc).ownBlock = some q → u.ownBlock ≠ some q) ∧ ∀ c ∈ F.take j, c ∈ M')) (fun _ m _ => F.length - (intOf m).toNat)
          case atStart => exact ⟨0, M, rfl, Nat.zero_le _, ⟨S2, hW, hU, hxe, hIt, ne2, fun c hc => by simp at hc⟩⟩
          case round =>
            clear S2 hW hU hxe hIt ne2 hxm hki hMl hlt hk
            obtain ⟨j, M', rfl, hjF, hh⟩ := hrel
            obtain ⟨hS, hW, hU, hxe, hIt, hne, hT⟩ := hh.out
            obtain ⟨hkL, hke⟩ := List.getElem?_eq_some_iff.1 hxe
            have hMl := nat_le hW.nodup (fun x hx => (blk_in HV.out.1 HV.out.2.1 HV.out.2.2 (hW.blk x hx)).1)
            by_cases hjl : j < F.length
            · have hji : (j : Int) < F.length := by omega
              obtain ⟨q, rfl, hq, cF⟩ := hIt.at j (by simpa using hjl)
              have hbF := List.getElem_mem hjl
              have hTk := List.take_succ_eq_append_getElem hjl
              simp only [List.getElem_map] at cF
              generalize F[j]'hjl = c at *
              have hcl := haf c hbF
              have cb : wr.cell? ⟨w.heap.size + 1 + 1, c, none⟩ = some (.bool (decide (c ∈ M'))) := hS.been.cell hcl
              by_cases hm : c ∈ M'
              · rw [decide_eq_true hm] at cb
                have HR : Hid (SpM p b w wr u7 vE vA M' k ∧ BW p b M' ∧ BShut p b M' k ∧ (b :: M')[k]? = some a ∧ Its wr bs (.slice (some ⟨q, 0, none⟩) F.length fc) (F.map fun (n : Nat) => (n : Int)) ∧ (∀ z, (Value.slice (some ⟨q, 0, none⟩) F.length fc).ownBlock = some z → u7.ownBlock ≠ some z) ∧ ∀ d ∈ F.take (j + 1), d ∈ M') := ⟨hS, hW, hU, hxe, hIt, hne, fun d hd => by
                  rw [hTk] at hd
                  rcases List.mem_append.1 hd with hd | hd
                  · exact hT d hd
                  · simp at hd; subst hd; exact hm⟩
                clear hh hS hW hU hxe hIt hne hT hTk
                go_wp2_with fail
                go_roundw
                · exact ⟨j + 1, M', by simp, by omega, HR⟩
                · simp [intOf]; omega
              · rw [decide_eq_false hm] at cb
                have fz : wr.frozen? ⟨w.heap.size + 1 + 1, c, none⟩ = false := hS.been.frozen c
                obtain ⟨WM, hWM⟩ : ∃ W, W = wr.setCell ⟨w.heap.size + 2, c, none⟩ (.bool true) := ⟨_, rfl⟩
                have kM : Keeps (fun z => z = w.heap.size + 2) wr WM := by rw [hWM]; exact (Keeps.refl (fun z => z = w.heap.size + 2) wr).setCell (p := ⟨w.heap.size + 2, c, none⟩) (.inr rfl) _
                have LM := hS.lst.keeps kM (fun z hz e => by have := (own_block hS.lst.own hz).2; omega)
                have IM := hIt.keeps kM (fun z hz e => by have := (own_block hIt.own hz).2; omega)
                obtain ⟨v', W4, r1, L4, G4⟩ := LM.push c (by rw [castL_len]; simp; omega)
                have S4 := hS.list (by simp at hkL ⊢; omega) hcl hWM L4 G4
                obtain ⟨I4, ne4⟩ := IM.apart_grow G4 hne
                obtain ⟨hO1, hO2, hO3⟩ := HO2.out
                have W4' := hW.push hbk hO1 hO2 (by rw [hO3]; exact hbF) hm
                have U4 := hU.push (by simp at hkL ⊢; omega) c
                have e5 : WM.heap.size = wr.heap.size := by rw [hWM]; simp
                rw [e5, hWM] at r1
                have HA : Hid (_ = _) := r1
                have HR : Hid (SpM p b w W4 v' vE vA (M' ++ [c]) k ∧ BW p b (M' ++ [c]) ∧ BShut p b (M' ++ [c]) k ∧ (b :: (M' ++ [c]))[k]? = some a ∧ Its W4 bs (.slice (some ⟨q, 0, none⟩) F.length fc) (F.map fun (n : Nat) => (n : Int)) ∧ (∀ z, (Value.slice (some ⟨q, 0, none⟩) F.length fc).ownBlock = some z → v'.ownBlock ≠ some z) ∧ ∀ d ∈ F.take (j + 1), d ∈ M' ++ [c]) := ⟨S4, W4', U4, by rw [← List.cons_append, List.getElem?_append_left hkL]; exact hxe, I4, ne4, fun d hd => by
                  rw [hTk] at hd
                  rcases List.mem_append.1 hd with hd | hd
                  · exact List.mem_append_left _ (hT d hd)
                  · simp at hd; subst hd; simp⟩
                clear hh hS hW hU hxe hIt hne hT hTk kM LM IM r1 L4 G4 S4 I4 ne4 W4' U4 hO1 hO2 hO3 hWM e5
                go_wp2_with (at_builtin; refine wpList_append_run rfl _ _ 53 rfl rfl rfl HA.out ?_)
                go_roundw
                · exact ⟨j + 1, _, by simp, by omega, HR⟩
                · simp [intOf]; omega
            · have hji : ¬ (j : Int) < F.length := by omega
              obtain rfl : j = F.length := by omega
              rw [List.take_length] at hT
              have hU' := hU.more hxe (fun _ _ d hd => hT d (by rw [← HO2.out.2.2]; exact hd))
              simp at hkL
              clear hh
              go_wp2_with fail
              go_roundw
              · exact ⟨k + 1, M', vE, vA, by simp, by omega, ⟨hS.skip hxe HO2.out.1 HO2.out.2.1, hW, hU'⟩⟩
              · simp [intOf]; omega
    · have hki : ¬ (k : Int) < (M.length : Int) + 1 := by omega
      obtain rfl : k = M.length + 1 := by omega
      have t15 := blk_sorted HV.out.1 HV.out.2.1 HV.out.2.2 hW hU 15 (by omega)
      have t16 := blk_sorted HV.out.1 HV.out.2.1 HV.out.2.2 hW hU 16 (by omega)
      have eT : (b :: M).take (M.length + 1) = b :: M := List.take_of_length_le (by simp)
      have hE := hS.ends
      have hA := hS.aborts
      rw [eT] at hE hA
      have lE : (castL (selO p 15 (b :: M))).length < 4611686018427387904 := by
        rw [castL_len]; unfold selO
        exact Nat.lt_of_le_of_lt (List.length_filter_le _ _) (by simp; omega)
      have lA : (castL (selO p 16 (b :: M))).length < 4611686018427387904 := by
        rw [castL_len]; unfold selO
        exact Nat.lt_of_le_of_lt (List.length_filter_le _ _) (by simp; omega)
      have HE : Hid (_) := sort_any hE lE
      obtain ⟨eb, en, ec, rfl⟩ : ∃ b n c, vE = .slice b n c := by
        obtain ⟨b, c, h⟩ := hE.form
        exact ⟨_, _, _, h⟩
      obtain ⟨ab, an, ac, rfl⟩ : ∃ b n c, vA = .slice b n c := by
        obtain ⟨b, c, h⟩ := hA.form
        exact ⟨_, _, _, h⟩
      have HS : Hid (SpM p b w wr (.slice ub (M.length + 1) uc) (.slice eb en ec) (.slice ab an ac) M (M.length + 1) ∧ Its wr (w.heap.size + 3) (.slice eb en ec) (castL (selO p 15 (b :: M))) ∧ Its wr (w.heap.size + 3) (.slice ab an ac) (castL (selO p 16 (b :: M)))) := ⟨hS, hE, hA⟩
      clear hh hS hE hA
      go_wp2_with fail
      refine Calls.mono HE.out ?_
      rintro e w1 ⟨rfl, E1, G1⟩
      clear HE
      obtain ⟨hS, hE, hA⟩ := HS.out
      obtain ⟨A1, n1⟩ := hA.apart_grow G1 (fun q hq e => hS.a3 q e hq)
      have K1 := grew_keeps G1 hS.kp hE (by omega)
      have sp1 := (G1.keeps.block _ (lt_of_block hS.sp) (fun e => by have := (own_block hE.own e).2; omega)).trans hS.sp
      have rs1 := (G1.keeps.block _ (lt_of_block hS.res) (fun e => by have := (own_block hE.own e).2; omega)).trans hS.res
      have y2 : w1.cell? ⟨w.heap.size + 1, 2, none⟩ = some (.slice ab an ac) := by rw [cell_of_block sp1]; rfl
      have HA : Hid (_) := sort_any A1 lA
      have HT : Hid (Its w1 (w.heap.size + 3) (.slice eb en ec) _ ∧ Its w1 (w.heap.size + 3) (.slice ab an ac) _ ∧ Keeps (fun _ => False) w w1 ∧ w1.heap[w.heap.size + 1]? = some _ ∧ w1.heap[w.heap.size]? = some _ ∧ ∀ q, (Value.slice ab an ac).ownBlock = some q → (Value.slice eb en ec).ownBlock ≠ some q) := ⟨E1, A1, K1, sp1, rs1, n1⟩
      clear hS hE hA E1 A1 K1 sp1 rs1 G1 HS n1 f1 f2 z1 z2
      go_wp2_with fail
      refine Calls.mono HA.out ?_
      rintro e w2 ⟨rfl, A2, G2⟩
      clear HA y2
      obtain ⟨E1, A1, K1, sp1, rs1, n1⟩ := HT.out
      obtain ⟨E2, n2⟩ := E1.apart_grow G2 (fun q hq e => n1 q e hq)
      have K2 := grew_keeps G2 K1 A1 (by omega)
      have sp2 := (G2.keeps.block _ (lt_of_block sp1) (fun e => by have := (own_block A1.own e).2; omega)).trans sp1
      have rs2 := (G2.keeps.block _ (lt_of_block rs1) (fun e => by have := (own_block A1.own e).2; omega)).trans rs1
      have q0 : w2.cell? ⟨w.heap.size + 1, 0, none⟩ = some (.int .i64 b) := by rw [cell_of_block sp2]; rfl
      have q1 : w2.cell? ⟨w.heap.size + 1, 1, none⟩ = some (.slice eb en ec) := by rw [cell_of_block sp2]; rfl
      have q2 : w2.cell? ⟨w.heap.size + 1, 2, none⟩ = some (.slice ab an ac) := by rw [cell_of_block sp2]; rfl
      have e15 : (castL (selO p 15 (b :: M))).mergeSort (fun x y => decide (x ≤ y)) = castL (blkL p b 15) := t15
      have e16 : (castL (selO p 16 (b :: M))).mergeSort (fun x y => decide (x ≤ y)) = castL (blkL p b 16) := t16
      rw [e15] at E2
      rw [e16] at A2
      have kr := row_keeps w2 w.heap.size #[.int .i64 b, .slice eb en ec, .slice ab an ac]
      clear HT E1 A1 K1 sp1 rs1 n1 sp2 t15 t16 e15 e16 G2
      go_wp2_with (refine wpList_store_row rfl 79 _ _ rfl w.heap.size #[.int .i64 b, .slice eb en ec, .slice ab an ac] rfl rfl 79 _ rs2 size_span rfl (by simp [Value.oneCell']) ?_)
      refine bodyPost_ret (results_cell_row rfl _ _ w.heap.size 79 #[.int .i64 b, .slice eb en ec, .slice ab an ac] (0, 0) _ rfl (setRow_heap _ _ _ _ _ _ rs2) Tryd.underlying79 rfl size_span) rfl ?_
      refine ⟨_, _, rfl, K2.row (Nat.le_refl _) _, (E2.keeps kr (fun q hq e => ?_)).base_le (by omega), (A2.keeps kr (fun q hq e => ?_)).base_le (by omega), n2⟩
      · have := (own_block E2.own hq).2; omega
      · have := (own_block A2.own hq).2; omega
end Go.Proofs.YtljapgoeomedkaaDoor
namespace Go.Proofs.YtljapgoeomedkaaDoor
open Go.RowKit Go.Shelf

/-- A block: its begin, its ends and aborts, and where these lie. -/
structure Spn where
  b : Nat
  e : List Int
  a : List Int
  ve : Value
  va : Value
def Spn.pure (s : Spn) : Nat × List Int × List Int := (s.b, s.e, s.a)
def NoMeet (x y : Value) : Prop := ∀ q, x.ownBlock = some q → y.ownBlock ≠ some q
theorem NoMeet.symm {x y : Value} (h : NoMeet x y) : NoMeet y x := fun q hy hx => h q hx hy
def spV (L : List Spn) : List Value := L.flatMap fun s => [.int .i64 s.b, s.ve, s.va]
def spB (L : List Spn) : List Value := L.flatMap fun s => [s.ve, s.va]
theorem spV_at : ∀ (L : List Spn) (k : Nat) (hk : k < L.length), (spV L)[k * 3]? = some (.int .i64 (L[k]).b) ∧ (spV L)[k * 3 + 1]? = some (L[k]).ve ∧ (spV L)[k * 3 + 2]? = some (L[k]).va
  | [], k, hk => absurd hk (by simp)
  | x :: L, 0, _ => ⟨rfl, rfl, rfl⟩
  | x :: L, k + 1, hk => by
    have h := spV_at L k (by simpa using hk)
    have e : spV (x :: L) = [.int .i64 x.b, x.ve, x.va] ++ spV L := rfl
    rw [e, List.getElem?_append_right (by simp; omega), List.getElem?_append_right (by simp; omega), List.getElem?_append_right (by simp; omega)]
    have e2 : (k + 1) * 3 - [Value.int .i64 x.b, x.ve, x.va].length = k * 3 := by simp; omega
    have e3 : (k + 1) * 3 + 1 - [Value.int .i64 x.b, x.ve, x.va].length = k * 3 + 1 := by simp; omega
    have e4 : (k + 1) * 3 + 2 - [Value.int .i64 x.b, x.ve, x.va].length = k * 3 + 2 := by simp; omega
    rw [e2, e3, e4]
    simpa using h
theorem info_span : (Tryd.prog.info? 79).map (fun i => (i.zero, i.size, i.bytes)) = some (some (.agg #[.int .i64 0, .slice none 0 0, .slice none 0 0]), 3, 56) := by kernel_rfl
/-- Where a list of blocks is. -/
structure Sps (w : World) (b0 : Nat) (v : Value) (L : List Spn) : Prop where
  own : w.ownsRow b0 79 3 v L.length (spV L)
  base : b0 ≤ w.heap.size
  each : ∀ s ∈ L, Its w b0 s.ve s.e ∧ Its w b0 s.va s.a
  apart : (v :: spB L).Pairwise NoMeet
theorem Sps.nil (w : World) : Sps w w.heap.size (.slice none 0 0) [] := ⟨⟨rfl, .inl ⟨rfl, rfl⟩⟩, Nat.le_refl _, fun s hs => by simp at hs, by simp [spB]⟩
theorem Sps.keeps {w w' : World} {base : Nat} {v : Value} {L : List Spn} (h : Sps w base v L) (k : Keeps (fun _ => False) w w') : Sps w' base v L :=
  ⟨own_keeps h.own k (fun _ _ f => f), Nat.le_trans h.base k.size, fun s hs => ⟨(h.each s hs).1.keeps k (fun _ _ f => f), (h.each s hs).2.keeps k (fun _ _ f => f)⟩, h.apart⟩
theorem Sps.form {w : World} {base : Nat} {v : Value} {L : List Spn} (h : Sps w base v L) : ∃ b c, v = .slice b L.length c := by
  rcases h.own.2 with ⟨rfl, h2⟩ | ⟨g, cap, cur, rfl, _⟩
  · exact ⟨none, 0, by rw [h2]⟩
  · exact ⟨_, cap, rfl⟩
theorem mem_spB {L : List Spn} {x : Value} : x ∈ spB L ↔ ∃ s ∈ L, x = s.ve ∨ x = s.va := by simp [spB]
/-- All that is the list's lies in young blocks. -/
theorem Sps.young {w : World} {base : Nat} {v : Value} {L : List Spn} (h : Sps w base v L) : ∀ x ∈ v :: spB L, ∀ q, x.ownBlock = some q → base ≤ q ∧ q < w.heap.size := by
  intro x hx q hq
  rcases List.mem_cons.1 hx with rfl | hx
  · exact ⟨(own_block h.own hq).2, (own_block h.own hq).1⟩
  · obtain ⟨s, hs, rfl | rfl⟩ := mem_spB.1 hx
    · exact ⟨(own_block (h.each s hs).1.own hq).2, (own_block (h.each s hs).1.own hq).1⟩
    · exact ⟨(own_block (h.each s hs).2.own hq).2, (own_block (h.each s hs).2.own hq).1⟩
theorem Sps.at {w : World} {base : Nat} {b : Option Addr} {n c : Nat} {L : List Spn} (h : Sps w base (.slice b n c) L) (k : Nat) (hk : k < L.length) : ∃ g, b = some ⟨g, 0, none⟩ ∧ base ≤ g ∧ w.cell? ⟨g, k * 3, none⟩ = some (.int .i64 (L[k]'hk).b) ∧ w.cell? ⟨g, k * 3 + 1, none⟩ = some (L[k]'hk).ve ∧ w.cell? ⟨g, k * 3 + 2, none⟩ = some (L[k]'hk).va := by
  rcases h.own.2 with ⟨_, h2⟩ | ⟨g, cap, cur, hv, h1, h2, h3, h4, h5, h6⟩
  · omega
  · cases hv
    obtain ⟨e0, e1, e2⟩ := spV_at L k hk
    rw [← h6, List.getElem?_take_of_lt (by omega)] at e0 e1 e2
    exact ⟨g, rfl, h1, by rw [cell_of_block h2]; simpa using e0, by rw [cell_of_block h2]; simpa using e1, by rw [cell_of_block h2]; simpa using e2⟩
theorem Its.one' {w : World} {base : Nat} {v : Value} {l : List Int} (h : Its w base v l) : v.oneCell' = true := by
  obtain ⟨b, c, rfl⟩ := h.form; rfl
theorem Sps.push {w : World} {base : Nat} {v : Value} {L : List Spn} (h : Sps w base v L) (s : Spn) (hE : Its w base s.ve s.e) (hA : Its w base s.va s.a) (hf : ∀ x ∈ v :: spB L, NoMeet x s.ve ∧ NoMeet x s.va) (hea : NoMeet s.ve s.va) (hb : (L.length + 1) * 56 ≤ 140737488355328) :
    ∃ v' w', (Builtin.append_ #[28, 28] 28 #[v, .slice (some ⟨w.heap.size, 0, none⟩) 1 1]).run Tryd.prog (w.alloc (.cells #[.int .i64 s.b, s.ve, s.va] 79)) = .ok v' w' ∧ Sps w' base v' (L ++ [s]) ∧ Grew w w' v v' := by
  have k0 := (Keeps.refl (fun _ => False) w).alloc (.cells #[.int .i64 s.b, s.ve, s.va] 79)
  have h0 := h.keeps k0
  have o1 := hE.one'
  have o2 := hA.one'
  obtain ⟨v', w', h1, h2, h3, h4⟩ := own_push (P := Tryd.prog) (w.alloc (.cells #[.int .i64 s.b, s.ve, s.va] 79)) base 28 28 79 _ 3 56 Tryd.underlying28 info_span rfl (by decide) v L.length _ h0.own ⟨w.heap.size, 0, none⟩ 1 1 [.int .i64 s.b, s.ve, s.va] rfl (fun j u hj => by
    match j with
    | 0 => simp at hj; subst hj; rw [addr_add, cell_of_block (MapKept.heap_alloc _ _).1]; rfl
    | 1 => simp at hj; subst hj; rw [addr_add, cell_of_block (MapKept.heap_alloc _ _).1]; rfl
    | 2 => simp at hj; subst hj; rw [addr_add, cell_of_block (MapKept.heap_alloc _ _).1]; rfl
    | j + 3 => simp at hj) (fun u hu => by
      simp only [List.mem_cons, List.not_mem_nil, or_false] at hu
      rcases hu with rfl | rfl | rfl
      · rfl
      · exact o1
      · exact o2) (by omega) (by decide) h0.base
  have hG : Grew w w' v v' := Grew.ahead k0 ⟨(Keeps.refl _ _).grown h3 fun k hk => .inr hk, h4⟩
  have hnm : ∀ x : Value, (∀ q, x.ownBlock = some q → q < w.heap.size) → NoMeet v x → NoMeet v' x := fun x hx hv q hq e => by
    rcases hG.own with ho | ho
    · exact hv q (ho ▸ hq) e
    · have := ho q hq; have := hx q e; omega
  obtain ⟨hv1, hv2⟩ := List.pairwise_cons.1 h.apart
  have hfv := hf v (by simp)
  refine ⟨v', w', h1, ⟨by simpa [spV] using h2, Nat.le_trans h0.base h3.size, fun t ht => ?_, ?_⟩, hG⟩
  · rcases List.mem_append.1 ht with ht | ht
    · have m1 : t.ve ∈ spB L := mem_spB.2 ⟨t, ht, .inl rfl⟩
      have m2 : t.va ∈ spB L := mem_spB.2 ⟨t, ht, .inr rfl⟩
      exact ⟨(h.each t ht).1.keeps hG.keeps (fun q hq e => hv1 _ m1 q e hq), (h.each t ht).2.keeps hG.keeps (fun q hq e => hv1 _ m2 q e hq)⟩
    · simp at ht; subst ht
      exact ⟨hE.keeps hG.keeps (fun q hq e => hfv.1 q e hq), hA.keeps hG.keeps (fun q hq e => hfv.2 q e hq)⟩
  · have e : spB (L ++ [s]) = spB L ++ [s.ve, s.va] := by simp [spB]
    rw [e, ← List.cons_append, List.pairwise_append, List.pairwise_cons]
    refine ⟨⟨fun x hx => hnm x (fun q hq => (h.young x (List.mem_cons_of_mem _ hx) q hq).2) (hv1 x hx), hv2⟩, by simpa using hea, ?_⟩
    intro x hx y hy
    have hy' : y = s.ve ∨ y = s.va := by simpa using hy
    rcases List.mem_cons.1 hx with rfl | hx
    · rcases hy' with rfl | rfl
      · exact hnm _ (fun q hq => (own_block hE.own hq).1) hfv.1
      · exact hnm _ (fun q hq => (own_block hA.own hq).1) hfv.2
    · rcases hy' with rfl | rfl
      · exact (hf x (List.mem_cons_of_mem _ hx)).1
      · exact (hf x (List.mem_cons_of_mem _ hx)).2
open Classical in
/-- The blocks of a program. -/
noncomputable def begB (p : List I5) (k : Nat) : Bool := decide ((at5 p k).op = 12) && (reachB p k false || reachB p k true)
noncomputable def spnL (p : List I5) (k : Nat) : List (Nat × List Int × List Int) := ((List.range k).filter (begB p)).map fun b => (b, castL (blkL p b 15), castL (blkL p b 16))
noncomputable def spnP (p : List I5) : List (Nat × List Int × List Int) := if (verd p).2 = 0 then spnL p p.length else []
theorem spnL_yes {p : List I5} {k : Nat} (h : begB p k = true) : spnL p (k + 1) = spnL p k ++ [(k, castL (blkL p k 15), castL (blkL p k 16))] := by
  unfold spnL; rw [List.range_succ, List.filter_append]; simp [h]
theorem spnL_no {p : List I5} {k : Nat} (h : begB p k = false) : spnL p (k + 1) = spnL p k := by
  unfold spnL; rw [List.range_succ, List.filter_append]; simp [h]
theorem spnL_len (p : List I5) (k : Nat) : (spnL p k).length ≤ k := by
  unfold spnL; rw [List.length_map]; exact Nat.le_trans (List.length_filter_le _ _) (by simp)
theorem beg_facts {p : List I5} (hv : (verd p).2 = 0) {k : Nat} (hk : k < p.length) (h : begB p k = true) : (at5 p k).op = 12 ∧ Reach p k false ∧ reachB p k true = false := by
  obtain ⟨_, _, _, _, hm, _⟩ := verd_facts2 hv
  have h1 := hm k hk
  unfold begB at h
  unfold modF at h1
  rw [Bool.and_eq_true, decide_eq_true_eq] at h
  have hi : insB (at5 p k).op = false := by rw [h.1]; rfl
  have ht : reachB p k true = false := by
    cases hx : reachB p k true
    · rfl
    · rw [hx, hi] at h1; simp at h1
  refine ⟨h.1, ?_, ht⟩
  have h2 := h.2
  rw [ht, Bool.or_false] at h2
  exact reachB_iff.1 h2
/-- What Spans answers, of either. -/
def SsPost (p : List I5) (w : World) (e : Ending) (w' : World) : Prop := ∃ (v : Value) (L : List Spn), e = .returned (.tuple #[v, .int .i64 (verd p).2]) ∧ Keeps (fun _ => False) w w' ∧ Sps w' w.heap.size v L ∧ L.map Spn.pure = spnP p
end Go.Proofs.YtljapgoeomedkaaDoor
