
/-
  The document's Put; what the walks of both logs hand on; Cut. No statement of the seat is proved here.
-/
import Derived.Test.YtbgnlenhncbceaaDoorRefL
import Derived.Test.YtbgnlenhncbceaaDoorWorks
import Derived.Test.YtbgnlenhncbceaaDoorWalkL
namespace Go.Proofs.YtbgnlenhncbceaaDoor
open Go.RowKit Go.Shelf

theorem atE_neg {es : List (Int × Int)} {a : Int} : atE es a < 0 ↔ ¬ idxE es a < es.length := by
  unfold atE
  split
  · constructor
    · intro h; omega
    · intro h; contradiction
  · constructor
    · intro _; assumption
    · intro _; omega

/-- The document's log with its own blocks. -/
def RefOwn (w : World) (b most : Nat) (L : List (Int × Int)) (Ow : Nat → Prop) : Prop := ∃ v, RefAt w b most L v ∧ ∀ q, Ow q ↔ (q = b ∨ v.ownBlock = some q)
section
variable {w w' : World} {b most : Nat} {L : List (Int × Int)} {Ow : Nat → Prop}
theorem RefOwn.kept {S : Nat → Prop} (h : RefOwn w b most L Ow) (k : Keeps S w w') (hS : ∀ q, Ow q → ¬ S q) : RefOwn w' b most L Ow := by
  obtain ⟨v, h1, h2⟩ := h
  exact ⟨v, h1.kept k (hS b ((h2 b).2 (.inl rfl))) (fun g hg => hS g ((h2 g).2 (.inr hg))), h2⟩
theorem RefOwn.lt (h : RefOwn w b most L Ow) {q : Nat} (hq : Ow q) : q < w.heap.size := by
  obtain ⟨v, h1, h2⟩ := h
  rcases (h2 q).1 hq with rfl | e
  · exact lt_of_block h1.box
  · exact h1.row.lt e
theorem RefOwn.cells (h : RefOwn w b most L Ow) {q : Nat} (hq : Ow q) : ∃ c t fr, w.heap[q]? = some (.cells c t fr) := by
  obtain ⟨v, h1, h2⟩ := h
  rcases (h2 q).1 hq with rfl | e
  · exact ⟨_, _, _, h1.box⟩
  · obtain ⟨c, hc⟩ := h1.row.kind e
    exact ⟨_, _, _, hc⟩
end

set_option maxRecDepth 100000 in
set_option maxHeartbeats 400000 in
theorem refo_put (b most : Nat) (L : List (Int × Int)) (Ow : Nat → Prop) (a x : Int) (w : World) (h : RefOwn w b most L Ow) (hm : L.length < 4398046511104) (hf : ¬ Full most L a) :
    Calls Tryd.prog 30 #[.pointer (some ⟨b, 0, none⟩), .int .u64 a, .int .u64 x] w fun e w' => e = .returned (.int .i64 0) ∧ (∃ Ow', RefOwn w' b most (L ++ [(a, x)]) Ow' ∧ ∀ q, Ow' q → Ow q ∨ w.heap.size ≤ q) ∧ Keeps Ow w w' := by
  obtain ⟨v, h1, h2⟩ := h
  have hrd := ref_redo b most L v w h1 hm
  have hle := redoE_length L
  have HE : Hid (∀ w1, Keeps (fun _ => False) w w1 → w1.cell? ⟨b, 0, none⟩ = some (.int .i64 most) ∧ w1.cell? ⟨b, 1, none⟩ = some v ∧ ∃ g cap w2, Hid ((Builtin.append_ #[29, 29] 29 #[v, .slice (some ⟨w1.heap.size, 0, none⟩) 1 1]).run Tryd.prog (w1.alloc (.cells #[.int .u64 a, .int .u64 x] 72)) = .ok (.slice (some ⟨g, 0, none⟩) (L.length + 1) cap) w2) ∧ w2.cell? ⟨b, 1, none⟩ = some v ∧ w2.frozen? ⟨b, 1, none⟩ = false ∧
      Hid ((∃ Ow', RefOwn (w2.setCell ⟨b, 1, none⟩ (.slice (some ⟨g, 0, none⟩) (L.length + 1) cap)) b most (L ++ [(a, x)]) Ow' ∧ ∀ q, Ow' q → Ow q ∨ w.heap.size ≤ q) ∧ Keeps Ow w (w2.setCell ⟨b, 1, none⟩ (.slice (some ⟨g, 0, none⟩) (L.length + 1) cap)))) := by
    intro w1 hk1
    have h3 := h1.kept hk1 (fun f => f) (fun _ _ f => f)
    obtain ⟨g, cap, w2, hr, hrow, hk⟩ := append_cell a x h3.row hm
    have hn := h1.ner
    have hs := hk1.size
    have kk : Keeps (fun k => v.ownBlock = some k) w1 w2 := by
      rcases hk with ⟨_, hk⟩ | ⟨q1, _, _, hk⟩
      · exact hk.mono (fun _ _ f => f.elim)
      · exact hk.mono (fun k _ f => by subst f; exact q1)
    have hb2 := kk.old h3.box hn
    have hbl := lt_of_block h1.box
    have hgb : g ≠ b := by
      rcases hk with ⟨q1, _⟩ | ⟨q1, _⟩
      · omega
      · exact fun e => hn (e ▸ q1)
    have k2 : ∀ v, Keeps (fun k => k = b) w2 (w2.setCell ⟨b, 1, none⟩ v) := fun v => (Keeps.refl (fun k => k = b) w2).setCell (p := ⟨b, 1, none⟩) (.inr rfl) v
    refine ⟨cell_of_block h3.box 0, cell_of_block h3.box 1, g, cap, w2, hr, cell_of_block hb2 1, frozen_of_block hb2 1, ⟨_, ⟨_, ⟨block_set hb2 1 _, hrow.kept (k2 _) (fun q hq => by simp [Value.ownBlock] at hq; omega)⟩, fun q => Iff.rfl⟩, ?_⟩, ?_⟩
    · rintro q (e | e)
      · exact .inl ((h2 q).2 (.inl e))
      · simp [Value.ownBlock] at e
        subst e
        rcases hk with ⟨q1, _⟩ | ⟨q1, _⟩
        · exact .inr (by omega)
        · exact .inl ((h2 _).2 (.inr q1))
    · exact ((hk1.mono (T := Ow) (fun _ _ f => f.elim)).trans (kk.mono (fun q _ e => (h2 q).2 (.inr e)))).setCell (p := ⟨b, 1, none⟩) (.inr ((h2 b).2 (.inl rfl))) _
  obtain ⟨al, cl, hv, _, _⟩ := h1.row.form
  have HV : Hid (v = .slice al L.length cl) := hv
  clear h1 h2 hv
  go_enter Tryd.func30, Tryd.ntmps30
  go_wp2_with fail
  refine hrd.mono ?_
  rintro e w1 ⟨vo, rfl, hrow, _, hk1⟩
  obtain ⟨c0, c1, g, cap, w2, HR, f1, f2, hend⟩ := HE.out w1 hk1
  rw [HV.out] at c1 HR f1
  have hat := ref_at vo _ a w1 hrow.pairs (by omega)
  obtain ⟨ao, co, rfl, _, _⟩ := hrow.form
  have hAf : Hid (¬ (atE (redoE L) a < 0 ∧ most ≤ (redoE L).length)) := fun ⟨q1, q2⟩ => hf ⟨atE_neg.1 q1, q2⟩
  clear hrd HE hrow hk1
  generalize atE (redoE L) a = A at *
  generalize (redoE L).length = N at *
  by_cases hA : A < 0
  · have hN : ¬ ((N : Int) ≥ (most : Int)) := fun e => hAf.out ⟨hA, by omega⟩
    go_wp2_with (first | (go_at_call 52; refine hat.mono ?_; rintro e w' ⟨rfl, hw'⟩; replace hw' := hw'.symm; subst hw') | (at_builtin; refine wpList_append_run rfl _ _ 29 rfl rfl rfl HR.out ?_; clear HR))
    go_ret
    exact ⟨rfl, hend.out⟩
  · have hA' : 0 ≤ A := by omega
    go_wp2_with (first | (go_at_call 52; refine hat.mono ?_; rintro e w' ⟨rfl, hw'⟩; replace hw' := hw'.symm; subst hw') | (at_builtin; refine wpList_append_run rfl _ _ 29 rfl rfl rfl HR.out ?_; clear HR))
    go_ret
    exact ⟨rfl, hend.out⟩

theorem all_reads (p : Option Addr) (w : World) : Calls Tryd.prog 15 #[.pointer p] w fun e w' => e = .returned (.func (.func 58) #[] #[.pointer (some ⟨w.heap.size, 0, none⟩)]) ∧ w' = w.alloc (.cells #[.func (.func 42) #[.pointer p] #[]] 69) := by
  have hw : ∀ W : World, Calls Tryd.prog 45 #[.func (.func 42) #[.pointer p] #[]] W fun e w' => e = .returned (.func (.func 58) #[] #[.pointer (some ⟨W.heap.size, 0, none⟩)]) ∧ w' = W.alloc (.cells #[.func (.func 42) #[.pointer p] #[]] 69) := fun W => by
    go_enter Tryd.func45, Tryd.ntmps45
    go_wp2_with fail
    go_ret
    exact ⟨rfl, rfl⟩
  go_enter Tryd.func15, Tryd.ntmps15
  go_wp2_with fail
  refine (hw w).mono ?_
  rintro e w' ⟨rfl, rfl⟩
  go_wp2_with fail
  go_ret
  exact ⟨rfl, rfl⟩
theorem all_redo (p : Option Addr) (w : World) : Calls Tryd.prog 26 #[.pointer p] w fun e w' => e = .returned (.func (.func 58) #[] #[.pointer (some ⟨w.heap.size, 0, none⟩)]) ∧ w' = w.alloc (.cells #[.func (.func 48) #[.pointer p] #[]] 69) := by
  have hw : ∀ W : World, Calls Tryd.prog 45 #[.func (.func 48) #[.pointer p] #[]] W fun e w' => e = .returned (.func (.func 58) #[] #[.pointer (some ⟨W.heap.size, 0, none⟩)]) ∧ w' = W.alloc (.cells #[.func (.func 48) #[.pointer p] #[]] 69) := fun W => by
    go_enter Tryd.func45, Tryd.ntmps45
    go_wp2_with fail
    go_ret
    exact ⟨rfl, rfl⟩
  go_enter Tryd.func26, Tryd.ntmps26
  go_wp2_with fail
  refine (hw w).mono ?_
  rintro e w' ⟨rfl, rfl⟩
  go_wp2_with fail
  go_ret
  exact ⟨rfl, rfl⟩

theorem Row.listAt {T : Nat → Prop} {w : World} {a : Option Addr} {n c : Nat} {es : List (Int × Int)} (h : Row w 72 2 (.slice a n c) es.length (entV es)) (hT : ∀ g off, a = some ⟨g, off, none⟩ → T g) : ListAt T w a es := fun i hi => by
  rcases h.2 with ⟨_, q2⟩ | ⟨g, cap, cur, q1, q2, q3, q4, q5, q6⟩
  · omega
  · injection q1 with q1 _ _
    obtain ⟨e1, e2⟩ := entV_get es i (es[i]) (List.getElem?_eq_getElem hi)
    have hcur : ∀ j u, (entV es)[j]? = some u → cur[j]? = some u := fun j u hj => by
      rw [← q6, List.getElem?_take] at hj
      split at hj
      · simpa using hj
      · cases hj
    exact ⟨g, 0, cur, (0, 0), _, _, q1, hT g 0 q1, q2, List.getElem?_eq_getElem hi, by rw [Nat.zero_add]; exact hcur _ _ e1, by rw [Nat.zero_add]; exact hcur _ _ e2⟩
/-- What a read log hands on. -/
theorem rlog_handed {r most : Nat} {es : List (Int × Int)} {Ow : Nat → Prop} {w : World} (h : RLogAt w r most es Ow) :
    Calls Tryd.prog 42 #[.pointer (some ⟨r, 0, none⟩)] w fun e w' => ∃ a c, e = .returned (.slice a es.length c) ∧ ListAt Ow w' a es ∧ Keeps (fun _ => False) w w' := by
  obtain ⟨v, h1, h2⟩ := h
  obtain ⟨a, c, rfl, hc1, _⟩ := h1.ents.form
  refine (reads_handed r _ c a w h1.c2 hc1).mono ?_
  rintro e w' ⟨rfl, rfl⟩
  exact ⟨a, _, rfl, h1.ents.listAt (fun g off e => (h2 g).2 (.inr (by rw [e]; rfl))), Keeps.refl _ _⟩

theorem sl_nil_eq (a : Addr) (n c : Nat) (w : World) : (binOp .eql 29 (.slice (some a) n c) (.slice none 0 0)).run Tryd.prog w = .ok (.bool false) w := by kernel_rfl
theorem sl_nil_nil (w : World) : (binOp .eql 29 (.slice none 0 0) (.slice none 0 0)).run Tryd.prog w = .ok (.bool true) w := by kernel_rfl
set_option maxRecDepth 100000 in
set_option maxHeartbeats 400000 in
/-- Clone of entries: in new memory, behind an empty slice. -/
theorem clone_cells (v : Value) (es : List (Int × Int)) (w : World) (h : Row w 72 2 v es.length (entV es)) (hes : es.length < 4398046511104) :
    Calls Tryd.prog 60 #[v] w fun e w' => ∃ v', e = .returned v' ∧ Row w' 72 2 v' es.length (entV es) ∧ (∀ g, v'.ownBlock = some g → w.heap.size ≤ g ∧ g < w.heap.size + 2) ∧ Keeps (fun _ => False) w w' ∧ (0 < es.length → w.heap.size + 2 ≤ w'.heap.size) := by
  rcases h.2 with ⟨rfl, hn⟩ | ⟨g, cap, cur, rfl, hg, h1, h2, h3, h4⟩
  · obtain rfl : es = [] := List.eq_nil_of_length_eq_zero hn
    have hnn := sl_nil_nil
    go_enter Tryd.func60, Tryd.ntmps60
    go_wp2_with fail
    go_ret
    exact ⟨_, rfl, row_nil _ _ _, fun g hg => by simp [Value.ownBlock] at hg, Keeps.refl _ _, fun h => by simp at h⟩
  · have hnl := sl_nil_eq ⟨g, 0, none⟩ es.length cap
    have hka : Keeps (fun _ => False) w (w.alloc (.cells #[] 72)) := (Keeps.refl _ w).alloc _
    have hrow0 : Row (w.alloc (.cells #[] 72)) 72 2 (.slice (some ⟨w.heap.size, 0, none⟩) 0 0) 0 [] := ⟨rfl, .inr ⟨w.heap.size, 0, #[], rfl, alloc_block w _, Nat.le_refl _, by unfold maxLen; omega, by simp, by simp⟩⟩
    have hrow1 := h.kept hka (fun _ _ f => f)
    have happ : ∃ v' w', Hid ((Builtin.append_ #[29, 29] 29 #[.slice (some ⟨w.heap.size, 0, none⟩) 0 0, .slice (some ⟨g, 0, none⟩) es.length cap]).run Tryd.prog (w.alloc (.cells #[] 72)) = .ok v' w') ∧ Hid (Row w' 72 2 v' es.length (entV es) ∧ (∀ g, v'.ownBlock = some g → w.heap.size ≤ g ∧ g < w.heap.size + 2) ∧ Keeps (fun _ => False) w w' ∧ (0 < es.length → w.heap.size + 2 ≤ w'.heap.size)) := by
      obtain ⟨i0, hi0, hz0, hz1, hzb⟩ := info_parts info_cell
      by_cases hn : es.length = 0
      · obtain rfl : es = [] := List.eq_nil_of_length_eq_zero hn
        refine ⟨.slice (some ⟨w.heap.size, 0, none⟩) 0 0, w.alloc (.cells #[] 72), ?_, hrow0, fun q hq => by simp [Value.ownBlock] at hq; omega, hka, fun h => by simp at h⟩
        have := run_append_room (P := Tryd.prog) (w.alloc (.cells #[] 72)) 29 29 72 i0 Tryd.underlying29 hi0 w.heap.size 0 0 #[] (alloc_block w _) ⟨g, 0, none⟩ 0 cap [] (by simp) (by simp) (by simp) (by simp) (by simp)
        rw [show (([] : List (Int × Int)).length) = 0 from rfl, this]
        congr 1
        simp only [World.setRow, World.alloc]
        congr 1
        apply Array.ext_getElem?
        intro j
        rw [Array.getElem?_modify]
        split
        · rename_i e
          subst e
          simp
        · rfl
      · have hcell : ∀ (j : Nat) (u : Value), (entV es)[j]? = some u → (w.alloc (.cells #[] 72)).cell? ((⟨g, 0, none⟩ : Addr).add j) = some u := fun j u hj => by
          rw [addr_add, Nat.zero_add, World.cell?_alloc_lt _ _ ⟨g, j, none⟩ (lt_of_block hg), cell_of_block hg]
          rw [← h4, List.getElem?_take] at hj
          split at hj
          · simpa using hj
          · cases hj
        obtain ⟨g2, cap2, w2, q1, q2, q3⟩ := run_append_row (P := Tryd.prog) (w.alloc (.cells #[] 72)) 29 29 72 i0 _ 2 16 Tryd.underlying29 hi0 hz0 hz1 hzb rfl hrow0 ⟨g, 0, none⟩ es.length cap (by omega) (entV es) (entV_length es) hcell (fun u hu => by
          unfold entV at hu
          obtain ⟨x, _, hx⟩ := List.mem_flatMap.1 hu
          simp at hx
          rcases hx with rfl | rfl <;> rfl) (by unfold maxLen; omega) (by omega)
        simp only [Nat.zero_add, List.nil_append] at q1 q2
        refine ⟨_, w2, q1, q2, fun q hq => ?_, ?_, fun _ => ?_⟩
        · simp [Value.ownBlock] at hq
          subst hq
          rcases q3 with ⟨q3, _⟩ | ⟨q3, _⟩
          · simp at q3
            omega
          · simp [Value.ownBlock] at q3
            omega
        · rcases q3 with ⟨_, q3⟩ | ⟨_, ⟨c0, q4, q5, _⟩, _, q3⟩
          · exact hka.trans q3
          · injection q4 with _ _ q4
            omega
        · rcases q3 with ⟨q3, _⟩ | ⟨_, ⟨c0, q4, q5, _⟩, _, q3⟩
          · have := q2.lt (k := g2) rfl
            simp at q3
            omega
          · injection q4 with _ _ q4
            omega
    obtain ⟨v', w', HR, hend⟩ := happ
    clear h hrow0 hrow1 h4
    go_enter Tryd.func60, Tryd.ntmps60
    go_wp2_with (at_builtin; refine wpList_append_run rfl _ _ 29 rfl rfl rfl HR.out ?_; clear HR)
    go_ret
    exact ⟨_, rfl, hend.out⟩
/-- What a redo log hands on: new memory. -/
theorem log_handed {r most : Nat} {L : List (Int × Int)} {Ow : Nat → Prop} {w : World} (h : LogAt w r most L Ow) :
    Calls Tryd.prog 48 #[.pointer (some ⟨r, 0, none⟩)] w fun e w' => ∃ a c, e = .returned (.slice a (redoE L).length c) ∧ ListAt (fun k => w.heap.size ≤ k ∧ k < w.heap.size + 2) w' a (redoE L) ∧ Keeps (fun _ => False) w w' ∧ (0 < (redoE L).length → w.heap.size + 2 ≤ w'.heap.size) := by
  have hfit := h.fit
  obtain ⟨v1, v2, bt, p, K, vf, Ot, h1, h2⟩ := h
  have hcl := clone_cells v1 _ w h1.ents (by omega)
  have c1 := h1.c1
  clear h1 h2
  go_enter Tryd.func48, Tryd.ntmps48
  go_wp2_with fail
  refine hcl.mono ?_
  rintro e w1 ⟨v', rfl, hrow, hown, hk, hz⟩
  have HZ : Hid (0 < (redoE L).length → w.heap.size + 2 ≤ w1.heap.size) := hz
  clear hz
  obtain ⟨a, c, rfl, _, _⟩ := hrow.form
  have hend : Hid (ListAt (fun k => w.heap.size ≤ k ∧ k < w.heap.size + 2) w1 a (redoE L)) := hrow.listAt (fun g off e => hown g (by rw [e]; rfl))
  clear hrow hown
  go_wp2_with fail
  go_ret
  exact ⟨a, c, rfl, hend.out, hk, HZ.out⟩
end Go.Proofs.YtbgnlenhncbceaaDoor
