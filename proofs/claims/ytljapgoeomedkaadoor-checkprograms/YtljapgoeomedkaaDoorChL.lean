
/- Instructions in a block of the call's own, one of them written over. No statement of the seat is proved here. -/
import Derived.Test.YtljapgoeomedkaaDoorChK
import Derived.Deep.MidRow
namespace Go.Proofs.YtljapgoeomedkaaDoor
open Go.RowKit Go.Shelf

theorem wpList_store_run {P : Program} {ops : Array Oper} {rest : List Oper} {op : Oper} {a : Act} {w w' : World} {Q : Exit → Act → World → Prop} (hgd : op.guard = none) (ty : TypeId) (x y : Operand) (ho : op.op = .store ty x y) {p v : Value} (hx : a.eval x = p) (hy : a.eval y = v)
    (hr : (Instr.storeAt ty p v).run P w = .ok () w') (h : wpList P ops Q rest (a.put op.dst undef) w') : wpList P ops Q (op :: rest) a w :=
  wpList_plain hgd fun _ hK => by
    unfold Oper.wp execOp
    simp only [ho, hx, hy, hr, Sem.run_bind, Result.andThen_ok]
    exact hK _ _ h
theorem there_block {w : World} {b : Nat} {t : TypeId} {c : Array Value} (h : w.heap[b]? = some (.cells c t (0, 0))) (o n : Nat) (hn : o + n ≤ c.size) : w.there b o n := fun j hj => ⟨by rw [cell_of_block h, Array.getElem?_eq_getElem (by omega)]; rfl, frozen_of_block h _⟩
theorem size_ins : (Tryd.prog.info? 50).map (·.size) = some 5 := by kernel_rfl

/-- A block that begins with these instructions. -/
def InsB (w : World) (g : Nat) (L : List I5) : Prop := ∃ c, w.heap[g]? = some (.cells c 50 (0, 0)) ∧ L.length * 5 ≤ c.size ∧ ∀ k (hk : k < L.length) f, f < 5 → c[k * 5 + f]? = (L[k]'hk).cells[f]?
theorem InsB.keeps {w w' : World} {g : Nat} {L : List I5} {S : Nat → Prop} (h : InsB w g L) (k : Keeps S w w') (hs : ¬ S g) : InsB w' g L := by
  obtain ⟨c, h1, h2, h3⟩ := h
  exact ⟨c, (k.block g (lt_of_block h1) hs).trans h1, h2, h3⟩
theorem InsB.lt {w : World} {g : Nat} {L : List I5} (h : InsB w g L) : g < w.heap.size := by
  obtain ⟨c, h1, _⟩ := h; exact lt_of_block h1
theorem InsB.insAt {w : World} {g : Nat} {L : List I5} (h : InsB w g L) (cap : Nat) (hwf : ∀ i ∈ L, i.wf) (hb : L.length * 40 ≤ 140737488355328) : InsAt w (.slice (some ⟨g, 0, none⟩) L.length cap) L := by
  obtain ⟨c, h1, h2, h3⟩ := h
  refine ⟨⟨_, cap, rfl, fun k hk => ⟨g, 0, rfl, ?_⟩⟩, hwf, hb⟩
  have e : ∀ f, f < 5 → w.cell? ⟨g, k * 5 + f, none⟩ = (L[k]).cells[f]? := fun f hf => by
    rw [cell_of_block h1]; exact h3 k hk f hf
  simp only [Nat.zero_add]
  exact ⟨e 0 (by omega), e 1 (by omega), e 2 (by omega), e 3 (by omega), e 4 (by omega)⟩
theorem InsB.take {w : World} {g : Nat} {L : List I5} (h : InsB w g L) (n : Nat) : InsB w g (L.take n) := by
  obtain ⟨c, h1, h2, h3⟩ := h
  refine ⟨c, h1, by simp; omega, fun k hk f hf => ?_⟩
  rw [List.getElem_take]
  exact h3 k (by simp at hk; omega) f hf
theorem InsB.of_own {w : World} {base : Nat} {v : Value} {L : List I5} (h : Irs w base v L) (hne : L ≠ []) : ∃ g cap, v = .slice (some ⟨g, 0, none⟩) L.length cap ∧ base ≤ g ∧ L.length ≤ cap ∧ InsB w g L := by
  rcases h.own.2 with ⟨_, h2⟩ | ⟨g, cap, cur, rfl, h1, h2, h3, h4, h5, h6⟩
  · exact absurd (List.length_eq_zero_iff.1 h2) hne
  · refine ⟨g, cap, rfl, h1, h3, cur, h2, by omega, fun k hk f hf => ?_⟩
    rw [← insV_at L k f hk hf, ← h6, List.getElem?_take_of_lt (by omega)]
    simp
/-- An instruction is written over. -/
theorem InsB.set {w : World} {g : Nat} {L : List I5} (h : InsB w g L) {k : Nat} (hk : k < L.length) (i : I5) :
    ∃ w', (Instr.storeAt 50 (.pointer (some ⟨g, k * 5, none⟩)) (.agg i.cells)).run Tryd.prog w = .ok () w' ∧ InsB w' g (L.set k i) ∧ Keeps (fun q => q = g) w w' := by
  obtain ⟨c, h1, h2, h3⟩ := h
  obtain ⟨op, a, b, e, n⟩ := i
  have ht := there_block h1 (k * 5) 5 (by omega)
  have hr := run_storeAt_mid (P := Tryd.prog) w g (k * 5) 50 #[.int .i64 op, .int .i64 a, .int .i64 b, .int .i64 e, .int .u64 n] ht size_ins (by simp [Value.oneCell'])
  refine ⟨_, hr, ?_, ?_⟩
  · have b1 := block_set h1 (k * 5) (.int .i64 op)
    have b2 := block_set b1 (k * 5 + 1) (.int .i64 a)
    have b3 := block_set b2 (k * 5 + 1 + 1) (.int .i64 b)
    have b4 := block_set b3 (k * 5 + 1 + 1 + 1) (.int .i64 e)
    have b5 := block_set b4 (k * 5 + 1 + 1 + 1 + 1) (.int .u64 n)
    refine ⟨_, b5, by simpa using h2, fun j hj f hf => ?_⟩
    have hj' : j < L.length := by simpa using hj
    have q := h3 j hj' f hf
    simp only [Array.getElem?_setIfInBounds, Array.size_setIfInBounds]
    by_cases hjk : j = k
    · subst hjk
      rw [List.getElem_set_self]
      have : f = 0 ∨ f = 1 ∨ f = 2 ∨ f = 3 ∨ f = 4 := by omega
      rcases this with rfl | rfl | rfl | rfl | rfl
      · rw [if_neg (by omega), if_neg (by omega), if_neg (by omega), if_neg (by omega), if_pos (by omega), if_pos (by omega)]; rfl
      · rw [if_neg (by omega), if_neg (by omega), if_neg (by omega), if_pos (by omega), if_pos (by omega)]; rfl
      · rw [if_neg (by omega), if_neg (by omega), if_pos (by omega), if_pos (by omega)]; rfl
      · rw [if_neg (by omega), if_pos (by omega), if_pos (by omega)]; rfl
      · rw [if_pos (by omega), if_pos (by omega)]; rfl
    · rw [List.getElem_set_ne (fun e => hjk e.symm)]
      rw [if_neg (by omega), if_neg (by omega), if_neg (by omega), if_neg (by omega), if_neg (by omega)]
      exact q
  · exact ((((((Keeps.refl (fun q => q = g) w).setCell (p := ⟨g, _, none⟩) (.inr rfl) _).setCell (p := ⟨g, _, none⟩) (.inr rfl) _).setCell (p := ⟨g, _, none⟩) (.inr rfl) _).setCell (p := ⟨g, _, none⟩) (.inr rfl) _).setCell (p := ⟨g, _, none⟩) (.inr rfl) _)
theorem InsB.kept {w wr w' : World} {g : Nat} (k : Keeps (fun q => q = g) wr w') (h : Keeps (fun _ => False) w wr) (hg : w.heap.size ≤ g) : Keeps (fun _ => False) w w' :=
  ⟨k.os.trans h.os, k.tape.trans h.tape, k.output.trans h.output, Nat.le_trans h.size k.size, fun q hq hs => (k.block q (Nat.lt_of_lt_of_le hq h.size) fun e => by omega).trans (h.block q hq hs)⟩
def i0 : I5 := ⟨0, 0, 0, 0, 0⟩
def iH : I5 := ⟨17, 0, 0, 0, 0⟩
/-- make([]api.Instr, n). -/
theorem run_prog (w : World) (n : Nat) (h1 : n ≤ 65536) : ∃ x : Array Value, (Instr.makeSlice 22 (.int .i64 (n : Int)) (.int .i64 (n : Int))).run Tryd.prog w = .ok (.slice (some ⟨w.heap.size, 0, none⟩) n n) (w.alloc (.cells x 50)) ∧ InsB (w.alloc (.cells x 50)) w.heap.size (List.replicate n i0) := by
  obtain ⟨i, hi, hz0, hz1, hz2⟩ := info_parts info_ins
  have h := run_make (P := Tryd.prog) w 22 50 i _ Tryd.underlying22 hi hz0 .i64 .i64 (n : Int) (n : Int) (by omega) (Int.le_refl _) (by rw [hz2]; omega) (by omega)
  rw [hz1, Int.toNat_natCast] at h
  refine ⟨_, h, _, heap_alloc_new _ _, by simp [madeCells], fun k hk f hf => ?_⟩
  simp at hk
  have e0 : k * 5 + f < n * 5 := by omega
  have e1 : (k * 5 + f) % 5 = f := by omega
  have : f = 0 ∨ f = 1 ∨ f = 2 ∨ f = 3 ∨ f = 4 := by omega
  rcases this with rfl | rfl | rfl | rfl | rfl
  · rw [Nat.add_zero] at e0 ⊢
    have e2 : k < n := by omega
    simp [madeCells, Value.cells, i0, e2]
  · simp [madeCells, Value.cells, e0, e1, i0]
  · simp [madeCells, Value.cells, e0, e1, i0]
  · simp [madeCells, Value.cells, e0, e1, i0]
  · simp [madeCells, Value.cells, e0, e1, i0]
theorem wf_iH : iH.wf := by unfold I5.wf iH; decide
/-- A program of halts may run. -/
theorem halts_verd {n : Nat} (h0 : 0 < n) (h1 : n ≤ 256) : verd (List.replicate n iH) = (-1, 0) := by
  have hat : ∀ k, k < n → at5 (List.replicate n iH) k = iH := fun k hk => by simp [at5, hk]
  have hR : ∀ a s, Reach (List.replicate n iH) a s → a = 0 ∧ s = false := by
    intro a s h
    cases h with
    | start => exact ⟨rfl, rfl⟩
    | step hr hi hb hlt =>
      have : _ = iH := List.eq_of_mem_replicate (List.mem_of_getElem? hi)
      subst this
      simp [folL, iH] at hb
  have hl : (List.replicate n iH).length = n := by simp
  unfold verd verdW
  rw [if_neg (by omega), firstK_none.2 (fun k hk => by unfold formF; rw [hat k (by omega)]; rfl), firstK_none.2 (fun k hk => by unfold tgtF; rw [hat k (by omega)]; rfl),
    firstK_none.2 (fun k hk => by unfold behF; rw [hat k (by omega)]; simp [folL, iH]), firstK_none.2 (fun k hk => by
      unfold modF
      rw [hat k (by omega)]
      have hr : reachB (List.replicate n iH) k true = false := reachB_no.2 fun h => by have := (hR _ _ h).2; simp at this
      rw [hr, show outB iH.op = true from rfl]
      simp)]
end Go.Proofs.YtljapgoeomedkaaDoor
