/-
  No statement of the seat is proved here. (Several texts in one: LendB, RefO, RefCB.)
-/
import Derived.Test.YtbgnlenhncbceaaDoorWorks
import Derived.Test.YtbgnlenhncbceaaDoorOverM
import Derived.Deep.Upon
import Derived.Test.YtbgnlenhncbceaaDoorRdoM

/-
  Words that are lent with marks behind them, and looked at again. No statement of the seat is proved here.
-/
namespace Go.Proofs.YtbgnlenhncbceaaDoor
open Go.RowKit Go.Shelf

set_option maxRecDepth 100000 in
set_option maxHeartbeats 1000000 in
theorem words_like (v1 v2 : Value) (cs : List Int) (w : World) (h1 : Reads w v1 cs) (h2 : Reads w v2 cs) : Calls Tryd.prog 22 #[v1, v2] w fun e w' => e = .returned (.bool true) ∧ Like w' w := by
  obtain ⟨hl, a1, c1, rfl, hc1⟩ := h1
  obtain ⟨_, a2, c2, rfl, hc2⟩ := h2
  have H1 : Hid (∀ X, Like X w → ∀ i, i < cs.length → ∃ g off, a1 = some ⟨g, off, none⟩ ∧ X.cell? ⟨g, off + i, none⟩ = some (.int .u64 (oat cs i))) := fun X hk i hi => by
    obtain ⟨g, off, h1, h2⟩ := hc1 i hi
    exact ⟨g, off, h1, (World.cell?_of_block (by rw [hk.heap])).trans h2⟩
  have H2 : Hid (∀ X, Like X w → ∀ i, i < cs.length → ∃ g off, a2 = some ⟨g, off, none⟩ ∧ X.cell? ⟨g, off + i, none⟩ = some (.int .u64 (oat cs i))) := fun X hk i hi => by
    obtain ⟨g, off, h1, h2⟩ := hc2 i hi
    exact ⟨g, off, h1, (World.cell?_of_block (by rw [hk.heap])).trans h2⟩
  clear hc1 hc2
  go_enter Tryd.func22, Tryd.ntmps22
  go_wp2_with fail
  go_loopw [5] (fun i wr => ∃ k : Nat, k ≤ cs.length ∧ i = .int .i64 k ∧ Like wr w) (fun i _ => cs.length - (intOf i).toNat)
  case atStart => exact ⟨0, by omega, rfl, ⟨rfl, rfl, rfl, rfl⟩⟩
  case round =>
    obtain ⟨k, hk, rfl, hlk⟩ := hrel
    by_cases hlt : k < cs.length
    · obtain ⟨g1, o1, rfl, e1⟩ := H1.out wr hlk k hlt
      obtain ⟨g2, o2, rfl, e2⟩ := H2.out wr hlk k hlt
      have hkl : (k : Int) < (cs.length : Int) := by omega
      generalize oat cs k = z at e1 e2
      have HL : Hid (Like wr w) := hlk
      clear hlk H1 H2
      go_wp2_with fail
      go_quiet (fail)
      go_wp2_with fail
      go_roundw
      case rel => exact ⟨k + 1, by omega, by go_num, ⟨HL.out.heap, HL.out.os, HL.out.tape, HL.out.output⟩⟩
      case measure => simp [intOf]; omega
    · obtain rfl : k = cs.length := by omega
      clear hlt
      go_wp2_with fail
      go_ret
      exact ⟨rfl, hlk⟩

set_option maxRecDepth 100000 in
/-- append(v, s...) where v is the call's own: a longer row of the call's own. -/
theorem app_words (w : World) (base : Nat) (v : Value) (n : Nat) (xs : List Value) (hown : w.ownsRow base 38 1 v n xs) (vs : Value) (ys : List Int) (hr : Lies w vs ys) (hb : (n + ys.length) * 8 ≤ 140737488355328) (hbase : base ≤ w.heap.size) :
    ∃ v' w', (Builtin.append_ #[39, 39] 39 #[v, vs]).run Tryd.prog w = .ok v' w' ∧ w'.ownsRow base 38 1 v' (n + ys.length) (xs ++ wordsV ys) ∧ w.grownBy w' v.ownBlock := by
  obtain ⟨i0, hi, hz0, hz1, hz2⟩ := info_parts info_word
  obtain ⟨sp, c, rfl, hc⟩ := hr
  have hg : w.grownBy w v.ownBlock := ⟨rfl, rfl, rfl, Nat.le_refl _, fun _ _ _ => rfl⟩
  cases sp with
  | none =>
    have hl : ys.length = 0 := by
      rcases Nat.eq_zero_or_pos ys.length with h | h
      · exact h
      · obtain ⟨g, off, ha, _⟩ := hc 0 (by omega)
        cases ha
    obtain rfl : ys = [] := List.eq_nil_of_length_eq_zero hl
    have hsrc : Src Tryd.prog i0.size 39 (.slice none 0 c) 0 [] w := Src.ofNil w (e' := 38) Tryd.underlying39 c
    rcases id hown.2 with ⟨rfl, rfl⟩ | ⟨g, cap, cur, rfl, h1, h2, h3, h4, h5, h6⟩
    · exact ⟨_, _, run_append_nothing w 39 39 39 38 i0 Tryd.underlying39 hi none 0 0 (Nat.le_refl _) _ hsrc, by simpa [wordsV] using hown, hg⟩
    · exact ⟨_, _, run_append_nothing w 39 39 39 38 i0 Tryd.underlying39 hi (some ⟨g, 0, none⟩) n cap h3 _ hsrc, by simpa [wordsV] using hown, hg⟩
  | some a =>
    obtain ⟨v', w', h1, h2, h3, _⟩ := run_append_own (P := Tryd.prog) w base 39 39 38 i0 (.int .u64 0) 1 8 Tryd.underlying39 hi hz0 hz1 hz2 rfl (by decide) v n xs hown a ys.length c (wordsV ys) (by simp [wordsV])
      (fun j u hj => by
        have hj' : j < ys.length := by
          have := (List.getElem?_eq_some_iff.1 hj).1
          simpa [wordsV] using this
        obtain ⟨g, off, ha', hc'⟩ := hc j hj'
        injection ha' with ha'
        subst ha'
        rw [addr_add, hc', ← hj]
        simp [wordsV, oat, hj'])
      (fun u hu => by
        simp [wordsV] at hu
        obtain ⟨y, _, rfl⟩ := hu
        rfl) (by simp only [maxLen]; omega) hb hbase
    exact ⟨v', w', h1, h2, h3⟩

def marks : List Int := [7000, 7001, 7002]
set_option maxRecDepth 100000 in
set_option maxHeartbeats 1000000 in
theorem lend_any (v : Value) (cs : List Int) (w : World) (hr : Lies w v cs) (hb : cs.length * 8 ≤ 140737488351232) :
    Calls Tryd.prog 19 #[v] w fun e w' => ∃ g c, e = .returned (.slice (some ⟨g, 0, none⟩) cs.length c) ∧ w'.ownsRow w.heap.size 38 1 (.slice (some ⟨g, 0, none⟩) (cs.length + 3) c) (cs.length + 3) (wordsV (cs ++ marks)) ∧ Keeps (fun _ => False) w w' := by
  have ho0 : (w.alloc (.cells #[] 38)).ownsRow w.heap.size 38 1 (.slice (some ⟨w.heap.size, 0, none⟩) 0 0) 0 [] := ⟨rfl, .inr ⟨w.heap.size, 0, #[], rfl, Nat.le_refl _, alloc_block w _, Nat.le_refl _, by unfold maxLen; omega, by simp, by simp⟩⟩
  have hk0 : Keeps (fun _ => False) w (w.alloc (.cells #[] 38)) := (Keeps.refl _ w).alloc _
  obtain ⟨v1, w1, hr1, ho1, hg1⟩ := app_words _ w.heap.size _ 0 [] ho0 v cs (hr.keeps hk0) (by omega) hk0.size
  have hk1 : Keeps (fun _ => False) w w1 := hk0.step (keeps_grown hg1) (fun k hk e => by simp [Value.ownBlock] at e; omega)
  have HR1 : Hid (_ = _) := hr1
  obtain ⟨al, cl, rfl, _⟩ := id hr
  simp only [Nat.zero_add, List.nil_append] at ho1
  clear hr hr1 ho0 hk0 hg1
  go_enter Tryd.func19, Tryd.ntmps19
  go_wp2_with (at_builtin; refine wpList_append_run rfl _ _ 39 rfl rfl rfl HR1.out ?_; clear HR1)
  go_loopw [3, 4] (fun o i wr => ∃ k : Nat, k ≤ 3 ∧ i = .int .i64 k ∧ wr.ownsRow w.heap.size 38 1 o (cs.length + k) (wordsV (cs ++ marks.take k)) ∧ Keeps (fun _ => False) w wr) (fun _ i _ => 3 - (intOf i).toNat)
  case atStart => exact ⟨0, by omega, rfl, by simpa using ho1, hk1⟩
  case round =>
    obtain ⟨k, hk, rfl, hown, hK⟩ := hrel
    by_cases hlt : k < 3
    · have hkl : (k : Int) < 3 := by omega
      have hs := hK.size
      have hw7 : IntKind.u64.wrap (7000 + (k : Int)) = 7000 + (k : Int) := by rw [IntKind.wrap_u64]; omega
      have hwk : IntKind.u64.wrap (k : Int) = (k : Int) := by rw [IntKind.wrap_u64]; omega
      obtain ⟨v2, w2, hr2, ho2, hg2⟩ := app_words _ w.heap.size u3 _ _ (hown.alloc (.cells #[.int .u64 (7000 + (k : Int))] 38)) (.slice (some ⟨wr.heap.size, 0, none⟩) 1 1) [7000 + (k : Int)] ⟨_, 1, rfl, fun i hi => ⟨_, 0, rfl, by
        obtain rfl : i = 0 := by simpa using hi
        exact cell_of_block (alloc_block wr _) 0⟩⟩ (by simp; omega) (by simp; omega)
      have hk2 : Keeps (fun _ => False) w w2 := (hK.alloc _).step (keeps_grown hg2) (fun q hq e => by have := (hown.lt q e).1; omega)
      have hm : marks.take (k + 1) = marks.take k ++ [7000 + (k : Int)] := by
        rcases k with _ | _ | _ | k
        · rfl
        · rfl
        · rfl
        · omega
      have HF : Hid (w2.ownsRow w.heap.size 38 1 v2 (cs.length + (k + 1)) (wordsV (cs ++ marks.take (k + 1)))) := by
        have e1 : wordsV (cs ++ marks.take k) ++ wordsV [7000 + (k : Int)] = wordsV (cs ++ marks.take (k + 1)) := by
          rw [hm, ← List.append_assoc]
          unfold wordsV
          rw [List.map_append (l₁ := cs ++ marks.take k)]
        rw [e1] at ho2
        exact ho2
      have HR2 : Hid (_ = _) := hr2
      obtain ⟨ao, no, co, hu3⟩ : ∃ a n c, u3 = .slice a n c := by
        rcases hown.2 with ⟨e, _⟩ | ⟨g, cap, cur, e, _⟩
        · exact ⟨_, _, _, e⟩
        · exact ⟨_, _, _, e⟩
      subst hu3
      clear hr2 ho2 hg2 hown hm
      go_wp2_with (at_builtin; refine wpList_append_run rfl _ _ 39 rfl rfl rfl HR2.out ?_; clear HR2)
      go_roundw
      case rel => exact ⟨k + 1, by omega, by go_num, HF.out, hk2⟩
      case measure => simp [intOf]; omega
    · obtain rfl : k = 3 := by omega
      rcases id hown.2 with ⟨_, h⟩ | ⟨g, cap, cur, hu, _, _, h3, _, _, _⟩
      · omega
      subst hu
      have hlc : (cs.length : Int) ≤ (cap : Int) := by omega
      have hlc2 : cs.length ≤ cap := by omega
      have HF : Hid (wr.ownsRow w.heap.size 38 1 (.slice (some ⟨g, 0, none⟩) (cs.length + 3) cap) (cs.length + 3) (wordsV (cs ++ marks))) := hown
      clear hown hlt
      go_wp2_with fail
      go_ret
      exact ⟨g, cap, rfl, HF.out, hK⟩

/-- What was lent, later: the words, and the marks behind them. -/
structure LentAt (w : World) (g c : Nat) (cs : List Int) : Prop where
  room : cs.length + 3 ≤ c
  cap : c ≤ maxLen
  cell : ∀ i, i < cs.length + 3 → w.cell? ⟨g, i, none⟩ = some (.int .u64 (oat (cs ++ marks) i))
theorem lent_of {w : World} {base g c : Nat} {cs : List Int} (h : w.ownsRow base 38 1 (.slice (some ⟨g, 0, none⟩) (cs.length + 3) c) (cs.length + 3) (wordsV (cs ++ marks))) : LentAt w g c cs := by
  rcases id h.2 with ⟨_, h⟩ | ⟨g', cap, cur, hu, q1, q2, h3, h4, _, _⟩
  · omega
  injection hu with e1 _ e2
  injection e1 with e1
  injection e1 with e1
  subst e1 e2
  refine ⟨h3, h4, fun i hi => ?_⟩
  rw [World.ownsRow.cellAt h i (by omega)]
  simp [wordsV, oat, marks, List.getElem?_append]
  split
  · simp_all
  · rename_i hn
    obtain hi' | hi' | hi' : i - cs.length = 0 ∨ i - cs.length = 1 ∨ i - cs.length = 2 := by omega
    · rw [hi']; simp
    · rw [hi']; simp
    · rw [hi']; simp
theorem LentAt.reads {w : World} {g c : Nat} {cs : List Int} (h : LentAt w g c cs) (hl : cs.length ≤ 35184372088832) : Reads w (.slice (some ⟨g, 0, none⟩) cs.length c) cs :=
  ⟨hl, _, _, rfl, fun i hi => ⟨g, 0, rfl, by rw [Nat.zero_add, h.cell i (by omega)]; simp [oat, List.getElem?_append, hi]⟩⟩
theorem LentAt.keeps {w w' : World} {g c : Nat} {cs : List Int} (h : LentAt w g c cs) (k : Keeps (fun _ => False) w w') : LentAt w' g c cs :=
  ⟨h.room, h.cap, fun i hi => (World.cell?_of_block (k.block g (World.block_lt_of_cell? _ _ (h.cell i hi)) (fun f => f))).trans (h.cell i hi)⟩
theorem LentAt.like {w w' : World} {g c : Nat} {cs : List Int} (h : LentAt w g c cs) (l : Like w' w) : LentAt w' g c cs := h.keeps (l.keeps (Keeps.refl _ _))

set_option maxRecDepth 100000 in
set_option maxHeartbeats 1000000 in
theorem kept_any (g c : Nat) (v2 : Value) (cs : List Int) (w : World) (h : LentAt w g c cs) (hr : Reads w v2 cs) :
    Calls Tryd.prog 23 #[.slice (some ⟨g, 0, none⟩) cs.length c, v2] w fun e w' => e = .returned (.bool true) ∧ Like w' w := by
  have hl := hr.1
  have hW := words_like _ v2 cs w (h.reads hl) hr
  obtain ⟨a2, c2, rfl⟩ := hr.form
  have hw3 : IntKind.i64.wrap ((cs.length : Int) + 3) = (cs.length : Int) + 3 := by rw [IntKind.wrap_i64]; omega
  have hroom : (cs.length : Int) + 3 ≤ (c : Int) := by have := h.room; omega
  go_enter Tryd.func23, Tryd.ntmps23
  go_wp2_with fail
  refine hW.mono ?_
  rintro e w1 ⟨rfl, hl1⟩
  have h1 := h.like hl1
  clear hW h hr
  go_wp2_with fail
  go_loop [6] (fun i => ∃ k : Nat, k ≤ 3 ∧ i = .int .i64 k) (fun i => 3 - (intOf i).toNat)
  case atStart => exact ⟨0, by omega, rfl⟩
  case round =>
    obtain ⟨k, hk, rfl⟩ := hrel
    by_cases hlt : k < 3
    · have hkl : (k : Int) < 3 := by omega
      have hx := h1.cell (cs.length + k) (by omega)
      have hm : oat (cs ++ marks) (cs.length + k) = 7000 + (k : Int) := by
        unfold oat
        rw [List.getElem?_append_right (by omega), Nat.add_sub_cancel_left]
        rcases k with _ | _ | _ | k
        · rfl
        · rfl
        · rfl
        · omega
      rw [hm] at hx
      have hw7 : IntKind.u64.wrap (7000 + (k : Int)) = 7000 + (k : Int) := by rw [IntKind.wrap_u64]; omega
      have hwk : IntKind.u64.wrap (k : Int) = (k : Int) := by rw [IntKind.wrap_u64]; omega
      have hws : IntKind.i64.wrap ((cs.length : Int) + (k : Int)) = (cs.length : Int) + (k : Int) := by rw [IntKind.wrap_i64]; omega
      have hi0 : 0 ≤ (cs.length : Int) + (k : Int) := by omega
      have hi1 : (cs.length : Int) + (k : Int) < (cs.length : Int) + 3 := by omega
      have hi2 : ((cs.length : Int) + (k : Int)).toNat = cs.length + k := by omega
      clear hm h1
      go_wp2_with fail
      go_round
      case rel => exact ⟨k + 1, by omega, by go_num⟩
      case measure => simp [intOf]; omega
    · obtain rfl : k = 3 := by omega
      clear hlt
      go_wp2_with fail
      go_ret
      exact ⟨rfl, hl1⟩
end Go.Proofs.YtbgnlenhncbceaaDoor


/-
  Over of the document's log. No statement of the seat is proved here.
-/
namespace Go.Proofs.YtbgnlenhncbceaaDoor
open Go.RowKit Go.Shelf
attribute [local go_sem] Oper.semAt_some

theorem row_of_owns {w : World} {base n : Nat} {t : TypeId} {v : Value} {xs : List Value} (h : w.ownsRow base t 1 v n xs) : Row w t 1 v n xs ∧ ∀ g, v.ownBlock = some g → base ≤ g := by
  obtain ⟨h1, h2⟩ := h
  rcases h2 with ⟨rfl, rfl⟩ | ⟨g, cap, cur, rfl, hb, q1, q2, q3, q4, q5⟩
  · exact ⟨⟨h1, .inl ⟨rfl, rfl⟩⟩, fun g hg => by simp [Value.ownBlock] at hg⟩
  · exact ⟨⟨h1, .inr ⟨g, cap, cur, rfl, q1, q2, q3, Nat.le_of_eq q4.symm, q5⟩⟩, fun k hk => by simp [Value.ownBlock] at hk; omega⟩
theorem row_reads {w : World} {v : Value} {ws : List Int} (h : Row w 38 1 v ws.length (wordsV ws)) (hl : ws.length ≤ 35184372088832) : Reads w v ws := by
  refine ⟨hl, ?_⟩
  by_cases hz : 0 < ws.length
  · obtain ⟨g, cap, rfl, h1, h2, h3, h4⟩ := h.at hz
    refine ⟨_, _, rfl, fun i hi => ⟨g, 0, rfl, ?_⟩⟩
    rw [Nat.zero_add, h3 i (by omega)]
    simp [wordsV, oat, hi]
  · obtain ⟨a, c, rfl, _, _⟩ := h.form
    exact ⟨a, c, rfl, fun i hi => absurd hi (by omega)⟩

theorem wordsV_at {ws : List Int} {n : Nat} (h : n < ws.length) : (wordsV ws)[n]? = some (.int .u64 (oat ws n)) := by simp [wordsV, oat, h]

set_option maxRecDepth 100000 in
set_option maxHeartbeats 2000000 in
theorem ref_over (b most : Nat) (L : List (Int × Int)) (v : Value) (w : World) (h : RefAt w b most L v) (hL : L.length < 4398046511104) (hfit : (redoE L).length ≤ 1048576) (hp : ∀ c, c ∈ redoE L → 0 ≤ c.1) (vc : Value) (cs : List Int) (hr : Reads w vc cs) (hb : cs.length * 8 ≤ 140737488351232) :
    Calls Tryd.prog 21 #[.pointer (some ⟨b, 0, none⟩), vc] w fun e w' => ∃ v' E ws, e = .returned (.tuple #[v', .int .i64 E]) ∧ Reads w' v' ws ∧ ((Within (redoE L) cs.length ∧ E = 0 ∧ ws = overW (redoE L) cs) ∨ (¬ Within (redoE L) cs.length ∧ E = 4 ∧ ws = [])) ∧ Keeps (fun _ => False) w w' := by
  have hrd := ref_redo b most L v w h hL
  generalize redoE L = es at *
  obtain ⟨av, cv, rfl⟩ := hr.form
  have HR0 : Hid (Reads w (.slice av cs.length cv) cs) := hr
  clear h hr
  go_enter Tryd.func21, Tryd.ntmps21
  go_wp2_with fail
  refine hrd.mono ?_
  rintro e w1 ⟨vo, rfl, hvo, _, hk1⟩
  have ho0 : (w1.alloc (.cells #[] 38)).ownsRow w1.heap.size 38 1 (.slice (some ⟨w1.heap.size, 0, none⟩) 0 0) 0 [] := ⟨rfl, .inr ⟨w1.heap.size, 0, #[], rfl, Nat.le_refl _, alloc_block w1 _, Nat.le_refl _, by unfold maxLen; omega, by simp, by simp⟩⟩
  have hk0 : Keeps (fun _ => False) w1 (w1.alloc (.cells #[] 38)) := (Keeps.refl _ w1).alloc _
  obtain ⟨out, w2, hr2, ho2, hg2⟩ := app_words _ w1.heap.size _ 0 [] ho0 (.slice av cs.length cv) cs ((HR0.out.2.keeps hk1).keeps hk0) (by omega) hk0.size
  have hk2 : Keeps (fun _ => False) w1 w2 := hk0.step (keeps_grown hg2) (fun k hk e => by simp [Value.ownBlock] at e; omega)
  have HR : Hid (_ = _) := hr2
  rw [Nat.zero_add, List.nil_append] at ho2
  obtain ⟨hrow2, hown2⟩ := row_of_owns ho2
  have hvo2 := hvo.kept hk2 (fun _ _ f => f)
  have hkw2 : Keeps (fun _ => False) w w2 := hk1.trans hk2
  have hows : ∀ g, out.ownBlock = some g → w.heap.size ≤ g := fun g hg => by have := hown2 g hg; have := hk1.size; omega
  obtain ⟨ao, co, rfl, hco, _⟩ := hvo.form
  clear hrd hvo hk1 hk0 ho0 hr2 ho2 hg2 hk2 hown2
  go_wp2_with (at_builtin; refine wpList_append_run rfl _ _ 39 rfl rfl rfl HR.out ?_; clear HR)
  go_loopw [8] (fun i X => ∃ k : Nat, k ≤ es.length ∧ i = .int .i64 k ∧ Row X 38 1 out cs.length (wordsV (overW (es.take k) cs)) ∧ Keeps (fun q => out.ownBlock = some q) w2 X ∧ Within (es.take k) cs.length) (fun i _ => es.length - (intOf i).toNat)
  case atStart => exact ⟨0, by omega, rfl, by simpa [overW] using hrow2, Keeps.refl _ _, fun e he => by simp at he⟩
  case round =>
    obtain ⟨k, hk, rfl, hrow, hkp, hwi⟩ := hrel
    have hvok : Row wr 72 2 (.slice ao es.length co) es.length (entV es) := hvo2.kept hkp (fun g hg e => by
      obtain ⟨c1, hc1⟩ := hvo2.kind hg
      obtain ⟨c2, hc2⟩ := hrow2.kind e
      exact absurd (kind_ne hc1 hc2) (by decide))
    have HF : Hid (Keeps (fun _ => False) w wr) := hkw2.step hkp (fun q hq e => by have := hows q e; omega)
    by_cases hlt : k < es.length
    · have hlt' : (k : Int) < (es.length : Int) := by omega
      obtain ⟨⟨a, x⟩, hax⟩ : ∃ c, es[k]? = some c := ⟨_, List.getElem?_eq_getElem hlt⟩
      have ha0 : 0 ≤ a := hp _ (List.mem_of_getElem? hax)
      obtain ⟨n, rfl⟩ := Int.eq_ofNat_of_zero_le ha0
      obtain ⟨g, cg, hge, _, _, hcell, _⟩ := hvok.at (by omega)
      injection hge with hge1 _ hge3
      subst hge1 hge3
      have e1 : wr.cell? ⟨g, k * 2, none⟩ = some (.int .u64 n) := (hcell _ (by omega)).trans (entV_get es k _ hax).1
      have e2 : wr.cell? ⟨g, k * 2 + 1, none⟩ = some (.int .u64 x) := (hcell _ (by omega)).trans (entV_get es k _ hax).2
      by_cases hn : n < cs.length
      · have hn' : ¬ ((n : Int) ≥ (cs.length : Int)) := by omega
        obtain ⟨go, cgo, rfl, hgo1, hgo2, hocell, hofr⟩ := hrow.at (by omega)
        have s1 := hocell n (by omega)
        rw [wordsV_at (by rw [overW_length]; exact hn)] at s1
        have s2 := hofr n
        have hgo : g ≠ go := fun e => by
          obtain ⟨c1, hc1⟩ := hvok.kind rfl
          obtain ⟨c2, hc2⟩ := hrow.kind rfl
          rw [e] at hc1
          exact absurd (kind_ne hc1 hc2) (by decide)
        have HX : Hid (Row (wr.setCell ⟨go, n, none⟩ (.int .u64 x)) 38 1 (.slice (some ⟨go, 0, none⟩) cs.length cgo) cs.length (wordsV (overW (es.take (k + 1)) cs)) ∧ Keeps (fun q => (Value.slice (some ⟨go, 0, none⟩) cs.length cgo).ownBlock = some q) w2 (wr.setCell ⟨go, n, none⟩ (.int .u64 x)) ∧ Within (es.take (k + 1)) cs.length) := by
          refine ⟨?_, hkp.setCell (p := ⟨go, n, none⟩) (.inr rfl) _, ?_⟩
          · rw [take_succ_at hax, overW_snoc, Int.toNat_natCast]
            have := hrow.store (g := go) (j := n) rfl (.int .u64 x)
            simpa [wordsV, List.map_set] using this
          · rw [take_succ_at hax]
            intro e he
            rw [List.mem_append, List.mem_singleton] at he
            rcases he with he | rfl
            · exact hwi e he
            · simp only; omega
        have t1 : (wr.setCell ⟨go, n, none⟩ (.int .u64 x)).cell? ⟨g, k * 2, none⟩ = some (.int .u64 n) := (World.cell?_setCell_far wr ⟨go, n, none⟩ ⟨g, k * 2, none⟩ _ (fun e => hgo e.symm)).trans e1
        have t2 : (wr.setCell ⟨go, n, none⟩ (.int .u64 x)).cell? ⟨g, k * 2 + 1, none⟩ = some (.int .u64 x) := (World.cell?_setCell_far wr ⟨go, n, none⟩ ⟨g, k * 2 + 1, none⟩ _ (fun e => hgo e.symm)).trans e2
        clear hvok hrow hkp hwi hrow2 hvo2 hkw2 hcell hocell hofr hows hax HF
        go_wp2_with fail
        go_region_held3 (fun W => W.cell? ⟨g, k * 2, none⟩ = some (.int .u64 n) ∧ W.cell? ⟨g, k * 2 + 1, none⟩ = some (.int .u64 x)) (first | assumption | (exact ⟨e1, e2⟩) | (exact ⟨t1, t2⟩) | go_keep) (fail)
        go_wp2_with fail
        have hX := HX.out
        have hk3 := hX.2.1
        exact ⟨⟨k + 1, by omega, by go_num, hX.1, ⟨hk3.os, hk3.tape, hk3.output, hk3.size, hk3.block⟩, hX.2.2⟩, by simp [intOf]; omega⟩
      · have hn' : (n : Int) ≥ (cs.length : Int) := by omega
        have HW : Hid (¬ Within es cs.length) := fun hw => by have := hw _ (List.mem_of_getElem? hax); simp only at this; omega
        clear hvok hrow hkp hwi hrow2 hvo2 hkw2 hcell hax hows
        go_wp2_with fail
        go_ret2
        exact ⟨.slice none 0 0, 4, rfl, ([] : List Int), ⟨by simp, none, 0, rfl, fun i hi => by simp at hi⟩, .inr ⟨HW.out, rfl, rfl⟩, HF.out⟩
    · obtain rfl : k = es.length := by omega
      have hlt' : ¬ (es.length : Int) < (es.length : Int) := by omega
      rw [List.take_length] at hrow hwi
      have hfin : Hid (Reads wr out (overW es cs)) := row_reads (by rw [overW_length]; exact hrow) (by rw [overW_length]; omega)
      have HW : Hid (Within es cs.length) := hwi
      clear hvok hrow hkp hwi hrow2 hvo2 hkw2
      go_wp2_with fail
      go_ret2
      exact ⟨_, _, rfl, _, hfin.out, .inl ⟨HW.out, rfl, rfl⟩, HF.out⟩
end Go.Proofs.YtbgnlenhncbceaaDoor


/-
  The document's Copy. No statement of the seat is proved here.
-/
namespace Go.Proofs.YtbgnlenhncbceaaDoor
open Go.RowKit Go.Shelf
attribute [local go_sem] Oper.semAt_some

set_option maxRecDepth 100000 in
/-- append([]api.Cell{}, v...). -/
theorem app_empty (v : Value) (es : List (Int × Int)) (w : World) (h : Row w 72 2 v es.length (entV es)) (hes : es.length < 4398046511104) :
    ∃ v' w', Hid ((Builtin.append_ #[29, 29] 29 #[.slice (some ⟨w.heap.size, 0, none⟩) 0 0, v]).run Tryd.prog (w.alloc (.cells #[] 72)) = .ok v' w') ∧ Row w' 72 2 v' es.length (entV es) ∧ (∀ g, v'.ownBlock = some g → w.heap.size ≤ g) ∧ Keeps (fun _ => False) w w' := by
  obtain ⟨i0, hi0, hz0, hz1, hzb⟩ := info_parts info_cell
  have hka : Keeps (fun _ => False) w (w.alloc (.cells #[] 72)) := (Keeps.refl _ w).alloc _
  have hrow0 : Row (w.alloc (.cells #[] 72)) 72 2 (.slice (some ⟨w.heap.size, 0, none⟩) 0 0) 0 [] := ⟨rfl, .inr ⟨w.heap.size, 0, #[], rfl, alloc_block w _, Nat.le_refl _, by unfold maxLen; omega, by simp, by simp⟩⟩
  rcases h.2 with ⟨rfl, hn⟩ | ⟨g, cap, cur, rfl, hg, h1, h2, h3, h4⟩
  · obtain rfl : es = [] := List.eq_nil_of_length_eq_zero hn
    exact ⟨_, _, run_append_nothing _ 29 29 29 72 i0 Tryd.underlying29 hi0 (some ⟨w.heap.size, 0, none⟩) 0 0 (Nat.le_refl _) _ (Src.ofNil _ (e' := 72) Tryd.underlying29 0), hrow0, fun q hq => by simp [Value.ownBlock] at hq; omega, hka⟩
  · by_cases hn : es.length = 0
    · obtain rfl : es = [] := List.eq_nil_of_length_eq_zero hn
      refine ⟨.slice (some ⟨w.heap.size, 0, none⟩) 0 0, w.alloc (.cells #[] 72), ?_, hrow0, fun q hq => by simp [Value.ownBlock] at hq; omega, hka⟩
      have := run_append_room (P := Tryd.prog) (w.alloc (.cells #[] 72)) 29 29 72 i0 Tryd.underlying29 hi0 w.heap.size 0 0 #[] (alloc_block w _) ⟨g, 0, none⟩ 0 cap [] (by simp) (by simp) (by simp) (by simp) (by simp)
      rw [show (([] : List (Int × Int)).length) = 0 from rfl]
      unfold Hid
      rw [this]
      congr 1
      simp only [World.setRow, World.alloc]
      congr 1
      apply Array.ext_getElem?
      intro j
      rw [Array.getElem?_modify]
      split
      · rename_i e
        subst e
        simp
      · rfl
    · have hcell : ∀ (j : Nat) (u : Value), (entV es)[j]? = some u → (w.alloc (.cells #[] 72)).cell? ((⟨g, 0, none⟩ : Addr).add j) = some u := fun j u hj => by
        rw [addr_add, Nat.zero_add, World.cell?_alloc_lt _ _ ⟨g, j, none⟩ (lt_of_block hg), cell_of_block hg]
        rw [← h4, List.getElem?_take] at hj
        split at hj
        · simpa using hj
        · cases hj
      obtain ⟨g2, cap2, w2, q1, q2, q3⟩ := run_append_row (P := Tryd.prog) (w.alloc (.cells #[] 72)) 29 29 72 i0 _ 2 16 Tryd.underlying29 hi0 hz0 hz1 hzb rfl hrow0 ⟨g, 0, none⟩ es.length cap (by omega) (entV es) (entV_length es) hcell (fun u hu => by
        unfold entV at hu
        obtain ⟨x, _, hx⟩ := List.mem_flatMap.1 hu
        simp at hx
        rcases hx with rfl | rfl <;> rfl) (by unfold maxLen; omega) (by omega)
      simp only [Nat.zero_add, List.nil_append] at q1 q2
      refine ⟨_, w2, q1, q2, fun q hq => ?_, ?_⟩
      · simp [Value.ownBlock] at hq
        subst hq
        rcases q3 with ⟨q3, _⟩ | ⟨q3, _⟩
        · simp at q3
          omega
        · simp [Value.ownBlock] at q3
          omega
      · rcases q3 with ⟨_, q3⟩ | ⟨_, ⟨c0, q4, q5, _⟩, _, q3⟩
        · exact hka.trans q3
        · injection q4 with _ _ q4
          omega

set_option maxRecDepth 100000 in
set_option maxHeartbeats 1000000 in
theorem ref_copy (b most : Nat) (L : List (Int × Int)) (v : Value) (w : World) (h : RefAt w b most L v) (hL : L.length < 4398046511104) :
    Calls Tryd.prog 12 #[.pointer (some ⟨b, 0, none⟩)] w fun e w' => ∃ b' v', e = .returned (.pointer (some ⟨b', 0, none⟩)) ∧ RefAt w' b' most L v' ∧ w.heap.size ≤ b' ∧ (∀ g, v'.ownBlock = some g → w.heap.size ≤ g) ∧ Keeps (fun _ => False) w w' := by
  have hmx : Tryd.prog.follows .mixedOrders = true := by kernel_rfl
  obtain ⟨al, cl, hv, _, _⟩ := h.row.form
  have hkd : Keeps (fun _ => False) w w.drew := ⟨rfl, rfl, rfl, Nat.le_refl _, fun _ _ _ => rfl⟩
  have hd := h.kept hkd (fun f => f) (fun _ _ f => f)
  obtain ⟨v', w1, HR, hrow, hnew, hk⟩ := app_empty v L w.drew hd.row hL
  have HS : ∀ Z, Keeps (fun _ => False) w.drew Z → Z.cell? ⟨b, 0, none⟩ = some (.int .i64 most) ∧ Z.cell? ⟨b, 1, none⟩ = some (.slice al L.length cl) := fun Z hz => by
    have h1 := hd.kept hz (fun f => f) (fun _ _ f => f)
    exact ⟨cell_of_block h1.box 0, by rw [← hv]; exact cell_of_block h1.box 1⟩
  have hS0 := HS w.drew (Keeps.refl _ _)
  have hS1 := HS (w.drew.alloc (.cells #[] 72)) ((Keeps.refl _ _).alloc _)
  have hS2 := HS w1 hk
  have hS3 := HS (w1.alloc (.cells #[.int .i64 most, v'] 36)) (hk.alloc _)
  have hend : Hid (RefAt (w1.alloc (.cells #[.int .i64 most, v'] 36)) w1.heap.size most L v' ∧ w.heap.size ≤ w1.heap.size ∧ (∀ g, v'.ownBlock = some g → w.heap.size ≤ g) ∧ Keeps (fun _ => False) w (w1.alloc (.cells #[.int .i64 most, v'] 36))) :=
    ⟨⟨alloc_block _ _, hrow.kept ((Keeps.refl (fun _ => False) w1).alloc _) (fun _ _ f => f)⟩, hk.size, hnew, hkd.trans (hk.alloc _)⟩
  obtain ⟨a1, c1, hv1, _, _⟩ := hrow.form
  rw [hv] at HR
  subst hv1
  clear hrow hnew hk hd hkd h HS hv
  go_enter Tryd.func12, Tryd.ntmps12
  go_wp2_with fail
  refine wp_held_end (S := fun W => W.cell? ⟨b, 0, none⟩ = some (.int .i64 most) ∧ W.cell? ⟨b, 1, none⟩ = some (.slice al L.length cl)) 13 rfl hmx ?_
  refine held_take (i := 0) (v := .pointer (some ⟨b, 0, none⟩)) 3 rfl rfl (by kernel_rfl) (by kernel_rfl) (by kernel_rfl) rfl (fun w' hw' => by obtain ⟨q0, q1⟩ := hw'; go_simp) hS0 ?_
  simp only [Act.put, List.setIfInBounds_toArray, List.set_cons_zero, List.set_cons_succ]
  refine held_take (i := 1) (v := .pointer (some ⟨b, 0, none⟩)) 4 rfl rfl (by kernel_rfl) (by kernel_rfl) (by kernel_rfl) rfl (fun w' hw' => by obtain ⟨q0, q1⟩ := hw'; go_simp) hS0 ?_
  simp only [Act.put, List.setIfInBounds_toArray, List.set_cons_zero, List.set_cons_succ]
  refine held_take (i := 2) (v := .pointer (some ⟨b, 0, none⟩)) 5 rfl rfl (by kernel_rfl) (by kernel_rfl) (by kernel_rfl) rfl (fun w' hw' => by obtain ⟨q0, q1⟩ := hw'; go_simp) hS0 ?_
  simp only [Act.put, List.setIfInBounds_toArray, List.set_cons_zero, List.set_cons_succ]
  refine held_take (i := 3) (v := .int .i64 most) 6 rfl rfl (by kernel_rfl) (by kernel_rfl) (by kernel_rfl) rfl (fun w' hw' => by obtain ⟨q0, q1⟩ := hw'; go_simp) hS0 ?_
  simp only [Act.put, List.setIfInBounds_toArray, List.set_cons_zero, List.set_cons_succ]
  refine held_take (i := 5) (v := .pointer (some ⟨b, 0, none⟩)) 8 rfl rfl (by kernel_rfl) (by kernel_rfl) (by kernel_rfl) rfl (fun w' hw' => by obtain ⟨q0, q1⟩ := hw'; go_simp) hS0 ?_
  simp only [Act.put, List.setIfInBounds_toArray, List.set_cons_zero, List.set_cons_succ]
  refine held_take (i := 6) (v := .pointer (some ⟨b, 0, none⟩)) 9 rfl rfl (by kernel_rfl) (by kernel_rfl) (by kernel_rfl) rfl (fun w' hw' => by obtain ⟨q0, q1⟩ := hw'; go_simp) hS0 ?_
  simp only [Act.put, List.setIfInBounds_toArray, List.set_cons_zero, List.set_cons_succ]
  refine held_take (i := 7) (v := .pointer (some ⟨b, 1, none⟩)) 10 rfl rfl (by kernel_rfl) (by kernel_rfl) (by kernel_rfl) rfl (fun w' hw' => by obtain ⟨q0, q1⟩ := hw'; go_simp) hS0 ?_
  simp only [Act.put, List.setIfInBounds_toArray, List.set_cons_zero, List.set_cons_succ]
  refine held_take (i := 8) (v := .slice al L.length cl) 11 rfl rfl (by kernel_rfl) (by kernel_rfl) (by kernel_rfl) rfl (fun w' hw' => by obtain ⟨q0, q1⟩ := hw'; go_simp) hS0 ?_
  simp only [Act.put, List.setIfInBounds_toArray, List.set_cons_zero, List.set_cons_succ]
  refine held_val (i := 4) (v := .slice (some ⟨w.drew.heap.size, 0, none⟩) 0 0) (w' := w.drew.alloc (.cells #[] 72)) (some 7) (by kernel_rfl) rfl rfl rfl (by go_simp) hS1 ?_
  simp only [Act.put, List.setIfInBounds_toArray, List.set_cons_zero, List.set_cons_succ]
  refine held_val (i := 9) (v := .slice a1 L.length c1) (w' := w1) (some 12) (by kernel_rfl) rfl rfl rfl (run_append_op rfl rfl rfl HR.out) hS2 ?_
  simp only [Act.put, List.setIfInBounds_toArray, List.set_cons_zero, List.set_cons_succ]
  clear hS0 hS1 HR
  refine held_take (i := 10) (v := .agg #[.int .i64 most, .slice a1 L.length c1]) 13 rfl rfl (by kernel_rfl) (by kernel_rfl) (by kernel_rfl) rfl (fun w' hw' => by go_simp) hS2 ?_
  simp only [Act.put, List.setIfInBounds_toArray, List.set_cons_zero, List.set_cons_succ]
  refine held_val (i := 11) (v := .pointer (some ⟨w1.heap.size, 0, none⟩)) (w' := w1.alloc (.cells #[.int .i64 most, .slice a1 L.length c1] 36)) (some 14) (by kernel_rfl) rfl rfl rfl (by go_simp) hS3 ?_
  simp only [Act.put, List.setIfInBounds_toArray, List.set_cons_zero, List.set_cons_succ]
  refine held_take (i := 12) (v := .pointer (some ⟨w1.heap.size, 0, none⟩)) 2 rfl rfl (by kernel_rfl) (by kernel_rfl) (by kernel_rfl) rfl (fun w' hw' => by go_simp) hS3 ?_
  simp only [Act.put, List.setIfInBounds_toArray, List.set_cons_zero, List.set_cons_succ]
  refine held_end (by kernel_rfl) ?_ _
  clear hS2 hS3
  go_wp2_with fail
  go_ret
  obtain ⟨q1, q2, q3, q4⟩ := hend.out
  exact ⟨_, _, rfl, q1, q2, q3, q4⟩
end Go.Proofs.YtbgnlenhncbceaaDoor
