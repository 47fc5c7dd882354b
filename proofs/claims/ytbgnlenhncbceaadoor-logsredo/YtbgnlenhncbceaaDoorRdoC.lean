
/-
  Copy of a redo log. No statement of the seat is proved here.
-/
import Derived.Test.YtbgnlenhncbceaaDoorRdoM
import Derived.Test.YtbgnlenhncbceaaDoorCopyI
namespace Go.Proofs.YtbgnlenhncbceaaDoor
open Go.RowKit Go.Shelf
attribute [local go_sem] Oper.semAt_some

theorem sp_nil_eq (a : Addr) (n c : Nat) (w : World) : (binOp .eql 55 (.slice (some a) n c) (.slice none 0 0)).run Tryd.prog w = .ok (.bool false) w := by kernel_rfl
theorem sp_nil_nil (w : World) : (binOp .eql 55 (.slice none 0 0) (.slice none 0 0)).run Tryd.prog w = .ok (.bool true) w := by kernel_rfl
set_option maxRecDepth 100000 in
set_option maxHeartbeats 400000 in
/-- Clone of Puts: in new memory, behind an empty slice. -/
theorem clone_puts (v : Value) (es : List Pt) (w : World) (h : Row w 89 3 v es.length (putV es)) (hes : es.length < 4398046511104) :
    Calls Tryd.prog 50 #[v] w fun e w' => ∃ v', e = .returned v' ∧ Row w' 89 3 v' es.length (putV es) ∧ (∀ g, v'.ownBlock = some g → w.heap.size ≤ g ∧ g < w.heap.size + 2) ∧ Keeps (fun _ => False) w w' ∧ (0 < es.length → w.heap.size + 2 ≤ w'.heap.size) := by
  rcases h.2 with ⟨rfl, hn⟩ | ⟨g, cap, cur, rfl, hg, h1, h2, h3, h4⟩
  · obtain rfl : es = [] := List.eq_nil_of_length_eq_zero hn
    have hnn := sp_nil_nil
    go_enter Tryd.func50, Tryd.ntmps50
    go_wp2_with fail
    go_ret
    exact ⟨_, rfl, row_nil _ _ _, fun g hg => by simp [Value.ownBlock] at hg, Keeps.refl _ _, fun h => by simp at h⟩
  · have hnl := sp_nil_eq ⟨g, 0, none⟩ es.length cap
    have hka : Keeps (fun _ => False) w (w.alloc (.cells #[] 89)) := (Keeps.refl _ w).alloc _
    have hrow0 : Row (w.alloc (.cells #[] 89)) 89 3 (.slice (some ⟨w.heap.size, 0, none⟩) 0 0) 0 [] := ⟨rfl, .inr ⟨w.heap.size, 0, #[], rfl, alloc_block w _, Nat.le_refl _, by unfold maxLen; omega, by simp, by simp⟩⟩
    have hrow1 := h.kept hka (fun _ _ f => f)
    have happ : ∃ v' w', Hid ((Builtin.append_ #[55, 55] 55 #[.slice (some ⟨w.heap.size, 0, none⟩) 0 0, .slice (some ⟨g, 0, none⟩) es.length cap]).run Tryd.prog (w.alloc (.cells #[] 89)) = .ok v' w') ∧ Hid (Row w' 89 3 v' es.length (putV es) ∧ (∀ g, v'.ownBlock = some g → w.heap.size ≤ g ∧ g < w.heap.size + 2) ∧ Keeps (fun _ => False) w w' ∧ (0 < es.length → w.heap.size + 2 ≤ w'.heap.size)) := by
      obtain ⟨i0, hi0, hz0, hz1, hzb⟩ := info_parts info_put
      by_cases hn : es.length = 0
      · obtain rfl : es = [] := List.eq_nil_of_length_eq_zero hn
        refine ⟨.slice (some ⟨w.heap.size, 0, none⟩) 0 0, w.alloc (.cells #[] 89), ?_, hrow0, fun q hq => by simp [Value.ownBlock] at hq; omega, hka, fun h => by simp at h⟩
        have := run_append_room (P := Tryd.prog) (w.alloc (.cells #[] 89)) 55 55 89 i0 Tryd.underlying55 hi0 w.heap.size 0 0 #[] (alloc_block w _) ⟨g, 0, none⟩ 0 cap [] (by simp) (by simp) (by simp) (by simp) (by simp)
        rw [show (([] : List Pt).length) = 0 from rfl, this]
        congr 1
        simp only [World.setRow, World.alloc]
        congr 1
        apply Array.ext_getElem?
        intro j
        rw [Array.getElem?_modify]
        split
        · rename_i e
          subst e
          simp
        · rfl
      · have hcell : ∀ (j : Nat) (u : Value), (putV es)[j]? = some u → (w.alloc (.cells #[] 89)).cell? ((⟨g, 0, none⟩ : Addr).add j) = some u := fun j u hj => by
          rw [addr_add, Nat.zero_add, World.cell?_alloc_lt _ _ ⟨g, j, none⟩ (lt_of_block hg), cell_of_block hg]
          rw [← h4, List.getElem?_take] at hj
          split at hj
          · simpa using hj
          · cases hj
        obtain ⟨g2, cap2, w2, q1, q2, q3⟩ := run_append_row (P := Tryd.prog) (w.alloc (.cells #[] 89)) 55 55 89 i0 _ 3 24 Tryd.underlying55 hi0 hz0 hz1 hzb rfl hrow0 ⟨g, 0, none⟩ es.length cap (by omega) (putV es) (putV_length es) hcell (fun u hu => by
          unfold putV at hu
          obtain ⟨x, _, hx⟩ := List.mem_flatMap.1 hu
          simp at hx
          rcases hx with rfl | rfl | rfl <;> rfl) (by unfold maxLen; omega) (by omega)
        simp only [Nat.zero_add, List.nil_append] at q1 q2
        refine ⟨_, w2, q1, q2, fun q hq => ?_, ?_, fun _ => ?_⟩
        · simp [Value.ownBlock] at hq
          subst hq
          rcases q3 with ⟨q3, _⟩ | ⟨q3, _⟩
          · simp at q3
            omega
          · simp [Value.ownBlock] at q3
            omega
        · rcases q3 with ⟨_, q3⟩ | ⟨_, ⟨c0, q4, q5, _⟩, _, q3⟩
          · exact hka.trans q3
          · injection q4 with _ _ q4
            omega
        · rcases q3 with ⟨q3, _⟩ | ⟨_, ⟨c0, q4, q5, _⟩, _, q3⟩
          · have := q2.lt (k := g2) rfl
            simp at q3
            omega
          · injection q4 with _ _ q4
            omega
    obtain ⟨v', w', HR, hend⟩ := happ
    clear h hrow0 hrow1 h4
    go_enter Tryd.func50, Tryd.ntmps50
    go_wp2_with (at_builtin; refine wpList_append_run rfl _ _ 55 rfl rfl rfl HR.out ?_; clear HR)
    go_ret
    exact ⟨_, rfl, hend.out⟩

theorem good_congr {w : World} {b s e0 p : Nat} {K : List (Option Int)} {O : List Int} {bf : Int → Nat} {vf vg : Int → Value} (h : I.Good w b s e0 p K O bf vf) (he : ∀ k, k ∈ O → vf k = vg k) : I.Good w b s e0 p K O bf vg := by
  refine ⟨⟨h.tab.tab, h.tab.slots, h.tab.sent, fun i hi => ?_, h.tab.bs, h.tab.be, h.tab.se, h.tab.kb, h.tab.binj, h.tab.nd⟩, h.inv, h.load, h.p3, h.p40, h.many⟩
  rw [← he (oat O i) (by unfold oat; rw [List.getElem?_eq_getElem hi]; exact List.getElem_mem hi)]
  exact h.tab.ent i hi

set_option maxHeartbeats 400000 in
theorem handed_row {r most : Nat} {L : List (Int × Int)} {Ow : Nat → Prop} {w : World} (h : LogAt w r most L Ow) :
    Calls Tryd.prog 48 #[.pointer (some ⟨r, 0, none⟩)] w fun e w' => ∃ v', e = .returned v' ∧ Row w' 72 2 v' (redoE L).length (entV (redoE L)) ∧ (∀ g, v'.ownBlock = some g → w.heap.size ≤ g) ∧ Keeps (fun _ => False) w w' := by
  have hfit := h.fit
  obtain ⟨v1, v2, bt, p, K, vf, Ot, h1, h2⟩ := h
  have hcl := clone_cells v1 _ w h1.ents (by omega)
  have c1 := h1.c1
  clear h1 h2
  go_enter Tryd.func48, Tryd.ntmps48
  go_wp2_with fail
  refine hcl.mono ?_
  rintro e w1 ⟨v', rfl, hrow, hown, hk, hz⟩
  have hend : Hid (Row w1 72 2 v' (redoE L).length (entV (redoE L)) ∧ (∀ g, v'.ownBlock = some g → w.heap.size ≤ g) ∧ Keeps (fun _ => False) w w1) := ⟨hrow, fun g hg => (hown g hg).1, hk⟩
  clear hrow hown hk hz
  go_wp2_with fail
  go_ret
  exact ⟨v', rfl, hend.out⟩

set_option maxRecDepth 100000 in
set_option maxHeartbeats 1000000 in
theorem log_copy (r most : Nat) (L : List (Int × Int)) (Ow : Nat → Prop) (w : World) (h : LogAt w r most L Ow) (hw : Tz w) (hm : L.length < 4398046511104) :
    Calls Tryd.prog 18 #[.pointer (some ⟨r, 0, none⟩)] w fun e w' => ∃ r' Ow', e = .returned (.pointer (some ⟨r', 0, none⟩)) ∧ LogAt w' r' most L Ow' ∧ (∀ q, Ow' q → w.heap.size ≤ q) ∧ Keeps (fun _ => False) w w' := by
  have hpos := hw.pos
  have hlog := h
  obtain ⟨v1, v2, bt, p, K, vf, Ot, h1, h2⟩ := h
  obtain ⟨al, cl, hv1, _, _⟩ := h1.ents.form
  obtain ⟨ap, cp, hv2, _, _⟩ := h1.puts.form
  obtain ⟨s, e0, bf, hG, hO⟩ := id h1.tab
  obtain ⟨uf, huf⟩ : ∃ uf : Int → Int, ∀ k, k ∈ (redoE L).map Prod.fst → vf k = .int .i64 (uf k) := by
    refine ⟨fun k => match vf k with | .int _ n => n | _ => 0, fun k hk => ?_⟩
    obtain ⟨⟨a, x⟩, hx, rfl⟩ := List.mem_map.1 hk
    obtain ⟨i, hi⟩ := List.mem_iff_getElem?.1 hx
    show vf a = .int .i64 (match vf a with | .int _ n => n | _ => 0)
    rw [h1.place i a x hi]
  have hG2 := good_congr (vg := fun k => .int .i64 (uf k)) hG huf
  have hplace : ∀ (i : Nat) (a x : Int), (redoE L)[i]? = some (a, x) → (fun k => Value.int .i64 (uf k)) a = .int .i64 i := fun i a x hi => by
    show Value.int .i64 (uf a) = _
    rw [← huf a (List.mem_map.2 ⟨(a, x), List.mem_of_getElem? hi, rfl⟩), h1.place i a x hi]
  have HS : Hid (∀ Z, Keeps (fun _ => False) w Z → (fun W : World => W.cell? ⟨r, 0, none⟩ = some (.int .i64 most) ∧ W.cell? ⟨r, 2, none⟩ = some (.pointer (some ⟨bt, 0, none⟩)) ∧ W.cell? ⟨r, 3, none⟩ = some v2) Z) := fun Z hk => by
    have q := h1.kept hk (fun _ _ f => f)
    exact ⟨q.c0, q.c2, q.c3⟩
  have HH : Hid (∀ W0, Like W0 w → Calls Tryd.prog 48 #[.pointer (some ⟨r, 0, none⟩)] W0 fun e w' => ∃ a c, e = .returned (.slice a (redoE L).length c) ∧ (fun W : World => W.cell? ⟨r, 0, none⟩ = some (.int .i64 most) ∧ W.cell? ⟨r, 2, none⟩ = some (.pointer (some ⟨bt, 0, none⟩)) ∧ W.cell? ⟨r, 3, none⟩ = some v2) w' ∧ Hid (Row w' 72 2 (.slice a (redoE L).length c) (redoE L).length (entV (redoE L)) ∧ (∀ g, (Value.slice a (redoE L).length c).ownBlock = some g → w.heap.size ≤ g) ∧ Keeps (fun _ => False) w w')) := fun W0 hl => by
    have hk0 := hl.keeps (Keeps.refl (fun _ => False) w)
    refine (handed_row (hlog.like hl)).mono fun e w' ⟨v', q1, q2, q3, q4⟩ => ?_
    have hk := hk0.trans q4
    obtain ⟨a, c, rfl, _, _⟩ := q2.form
    exact ⟨a, c, q1, HS.out _ hk, q2, fun g hg => by have := q3 g hg; rw [hl.heap] at this; exact this, hk⟩
  have HT : Hid (∀ Z W0, Keeps (fun _ => False) w Z → Like W0 Z → Calls Tryd.prog 49 #[.pointer (some ⟨bt, 0, none⟩)] W0 fun e w' => ∃ b', e = .returned (.pointer (some ⟨b', 0, none⟩)) ∧ (fun W : World => W.cell? ⟨r, 0, none⟩ = some (.int .i64 most) ∧ W.cell? ⟨r, 2, none⟩ = some (.pointer (some ⟨bt, 0, none⟩)) ∧ W.cell? ⟨r, 3, none⟩ = some v2) w' ∧ Hid ((∃ s' e0' bf', I.Good w' b' s' e0' p K ((redoE L).map Prod.fst) bf' (fun k => .int .i64 (uf k)) ∧ ∀ q, Own b' s' e0' ((redoE L).map Prod.fst) bf' q → Z.heap.size ≤ q) ∧ Keeps (fun _ => False) Z w' ∧ Keeps (fun _ => False) w w')) := fun Z W0 hz hl => by
    have hk0 := hl.keeps hz
    refine (I.copy_at bt s e0 p K _ bf uf W0 (hG2.kept hk0 (fun _ _ f => f)) (hw.keeps hk0 (fun f => f))).mono fun e w' ⟨b', s', e0', bf', q1, q2, q3, q4⟩ => ?_
    have hk := hk0.trans q4
    exact ⟨b', q1, HS.out _ hk, ⟨s', e0', bf', q2, fun q hq => by have := q3 q hq; rw [hl.heap] at this; exact this⟩, (hl.keeps (Keeps.refl (fun _ => False) Z)).trans q4, hk⟩
  have HC : Hid (∀ Z W0, Keeps (fun _ => False) w Z → Like W0 Z → Calls Tryd.prog 50 #[v2] W0 fun e w' => ∃ a c, e = .returned (.slice a (redoU L).length c) ∧ (fun W : World => W.cell? ⟨r, 0, none⟩ = some (.int .i64 most) ∧ W.cell? ⟨r, 2, none⟩ = some (.pointer (some ⟨bt, 0, none⟩)) ∧ W.cell? ⟨r, 3, none⟩ = some v2) w' ∧ Hid (Row w' 89 3 (.slice a (redoU L).length c) (redoU L).length (putV (redoU L)) ∧ (∀ g, (Value.slice a (redoU L).length c).ownBlock = some g → Z.heap.size ≤ g) ∧ Keeps (fun _ => False) Z w' ∧ Keeps (fun _ => False) w w')) := fun Z W0 hz hl => by
    have hk0 := hl.keeps hz
    refine (clone_puts v2 _ W0 (h1.kept hk0 (fun _ _ f => f)).puts (by rw [redoU_length]; exact hm)).mono fun e w' ⟨v', q1, q2, q3, q4, _⟩ => ?_
    have hk := hk0.trans q4
    obtain ⟨a, c, rfl, _, _⟩ := q2.form
    exact ⟨a, c, q1, HS.out _ hk, q2, fun g hg => by have := (q3 g hg).1; rw [hl.heap] at this; exact this, (hl.keeps (Keeps.refl (fun _ => False) Z)).trans q4, hk⟩
  have HF : Hid ((∀ (i : Nat) (a x : Int), (redoE L)[i]? = some (a, x) → (fun k => Value.int .i64 (uf k)) a = .int .i64 i) ∧ (redoE L).length ≤ most ∧ most ≤ 1048576 ∧ (redoU L).length ≤ 4398046511104) := ⟨hplace, h1.fit, h1.most20, h1.many⟩
  have hS0 := HS.out w (Keeps.refl _ _)
  have ht := redo_there r bt w h1.c2
  clear hlog h1 h2 hv1 hG hO huf hG2 hplace HS
  subst hv2
  go_enter Tryd.func18, Tryd.ntmps18
  go_wp2_with (go_at_call 47; refine ht.mono ?_; rintro e w' ⟨rfl, hw'⟩; replace hw' := hw'.symm; subst hw')
  go_region_held3 (fun W : World => W.cell? ⟨r, 0, none⟩ = some (.int .i64 most) ∧ W.cell? ⟨r, 2, none⟩ = some (.pointer (some ⟨bt, 0, none⟩)) ∧ W.cell? ⟨r, 3, none⟩ = some (.slice ap (redoU L).length cp)) (first | assumption | (exact hS0) | go_keep) ((first
    | (go_at_call 48; refine (HH.out _ (by exact ⟨rfl, rfl, rfl, rfl⟩)).mono ?_; rintro e Z1 ⟨a1, c1, rfl, hZ1, hH1⟩)
    | (go_at_call 49; refine (HT.out _ _ hH1.out.2.2 (by exact ⟨rfl, rfl, rfl, rfl⟩)).mono ?_; rintro e Z2 ⟨b', rfl, hZ2, hH2⟩)
    | (go_at_call 50; refine (HC.out _ _ hH2.out.2.2 (by exact ⟨rfl, rfl, rfl, rfl⟩)).mono ?_; rintro e Z3 ⟨a3, c3, rfl, hZ3, hH3⟩)))
  obtain ⟨hr1, hn1, hk1⟩ := hH1.out
  obtain ⟨⟨s', e0', bf', hG', hO'⟩, hk12, hk2⟩ := hH2.out
  obtain ⟨hr3, hn3, hk23, hk3⟩ := hH3.out
  have hz1 := hk1.size
  have hz2 := hk12.size
  have hz3 := hk23.size
  have hend : Hid (∃ Ow', LogAt (Z3.alloc (.cells #[.int .i64 most, .slice a1 (redoE L).length c1, .pointer (some ⟨b', 0, none⟩), .slice a3 (redoU L).length c3] 57)) Z3.heap.size most L Ow' ∧ (∀ q, Ow' q → w.heap.size ≤ q) ∧ Keeps (fun _ => False) w (Z3.alloc (.cells #[.int .i64 most, .slice a1 (redoE L).length c1, .pointer (some ⟨b', 0, none⟩), .slice a3 (redoU L).length c3] 57))) := by
    have kA : Keeps (fun _ => False) Z3 (Z3.alloc (.cells #[.int .i64 most, .slice a1 (redoE L).length c1, .pointer (some ⟨b', 0, none⟩), .slice a3 (redoU L).length c3] 57)) := (Keeps.refl _ Z3).alloc _
    have hT : I.Holds (Z3.alloc (.cells #[.int .i64 most, .slice a1 (redoE L).length c1, .pointer (some ⟨b', 0, none⟩), .slice a3 (redoU L).length c3] 57)) b' p K ((redoE L).map Prod.fst) (fun k => .int .i64 (uf k)) (Own b' s' e0' ((redoE L).map Prod.fst) bf') := ⟨s', e0', bf', hG'.kept (hk23.trans kA) (fun _ _ f => f), fun q => Iff.rfl⟩
    obtain ⟨f1, f2, f3, f4⟩ := HF.out
    refine ⟨_, ⟨_, _, b', p, K, _, _, ⟨alloc_block _ _, hr1.kept ((hk12.trans hk23).trans kA) (fun _ _ f => f), hr3.kept kA (fun _ _ f => f), hT, f1, f2, f3, f4, holds_kinds hT, fun q hq => by have := hO' q hq; omega⟩, fun q => Iff.rfl⟩, fun q hq => ?_, hk3.trans kA⟩
    rcases hq with hq | hq | hq | hq
    · omega
    · exact hn1 q hq
    · have := hn3 q hq
      omega
    · have := hO' q hq
      omega
  clear hr1 hn1 hk1 hG' hO' hk12 hk2 hr3 hn3 hk23 hk3 hz1 hz2 hz3 HH HT HC hH1 hH2 hH3 hZ1 hZ2 hZ3 hS0
  go_wp2_with fail
  go_ret
  obtain ⟨Ow', q1, q2, q3⟩ := hend.out
  exact ⟨_, Ow', rfl, q1, q2, q3⟩
end Go.Proofs.YtbgnlenhncbceaaDoor
