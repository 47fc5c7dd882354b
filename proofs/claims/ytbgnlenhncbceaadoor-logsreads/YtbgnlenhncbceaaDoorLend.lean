
/-
  Words that are lent with marks behind them, and looked at again. No statement of the seat is proved here.
-/
import Derived.Test.YtbgnlenhncbceaaDoorWorks
import Derived.Test.YtbgnlenhncbceaaDoorOver
import Derived.Deep.Upon
namespace Go.Proofs.YtbgnlenhncbceaaDoor
open Go.RowKit Go.Shelf

set_option maxRecDepth 100000 in
set_option maxHeartbeats 1000000 in
theorem words_same (v1 v2 : Value) (cs : List Int) (w : World) (h1 : Reads w v1 cs) (h2 : Reads w v2 cs) : Calls Tryd.prog 22 #[v1, v2] w fun e w' => e = .returned (.bool true) ∧ Like w' w := by
  obtain ⟨hl, a1, c1, rfl, hc1⟩ := h1
  obtain ⟨_, a2, c2, rfl, hc2⟩ := h2
  have H1 : Hid (∀ X, Like X w → ∀ i, i < cs.length → ∃ g off, a1 = some ⟨g, off, none⟩ ∧ X.cell? ⟨g, off + i, none⟩ = some (.int .u64 (oat cs i))) := fun X hk i hi => by
    obtain ⟨g, off, h1, h2⟩ := hc1 i hi
    exact ⟨g, off, h1, (World.cell?_of_block (by rw [hk.heap])).trans h2⟩
  have H2 : Hid (∀ X, Like X w → ∀ i, i < cs.length → ∃ g off, a2 = some ⟨g, off, none⟩ ∧ X.cell? ⟨g, off + i, none⟩ = some (.int .u64 (oat cs i))) := fun X hk i hi => by
    obtain ⟨g, off, h1, h2⟩ := hc2 i hi
    exact ⟨g, off, h1, (World.cell?_of_block (by rw [hk.heap])).trans h2⟩
  clear hc1 hc2
  go_enter Tryd.func22, Tryd.ntmps22
  go_wp2_with fail
  go_loopw [5] (fun i wr => ∃ k : Nat, k ≤ cs.length ∧ i = .int .i64 k ∧ Like wr w) (fun i _ => cs.length - (intOf i).toNat)
  case atStart => exact ⟨0, by omega, rfl, ⟨rfl, rfl, rfl, rfl⟩⟩
  case round =>
    obtain ⟨k, hk, rfl, hlk⟩ := hrel
    by_cases hlt : k < cs.length
    · obtain ⟨g1, o1, rfl, e1⟩ := H1.out wr hlk k hlt
      obtain ⟨g2, o2, rfl, e2⟩ := H2.out wr hlk k hlt
      have hkl : (k : Int) < (cs.length : Int) := by omega
      generalize oat cs k = z at e1 e2
      have HL : Hid (Like wr w) := hlk
      clear hlk H1 H2
      go_wp2_with fail
      go_quiet (fail)
      go_wp2_with fail
      go_roundw
      case rel => exact ⟨k + 1, by omega, by go_num, ⟨HL.out.heap, HL.out.os, HL.out.tape, HL.out.output⟩⟩
      case measure => simp [intOf]; omega
    · obtain rfl : k = cs.length := by omega
      clear hlt
      go_wp2_with fail
      go_ret
      exact ⟨rfl, hlk⟩

set_option maxRecDepth 100000 in
/-- append(v, s...) where v is the call's own: a longer row of the call's own. -/
theorem app_words (w : World) (base : Nat) (v : Value) (n : Nat) (xs : List Value) (hown : w.ownsRow base 38 1 v n xs) (vs : Value) (ys : List Int) (hr : Lies w vs ys) (hb : (n + ys.length) * 8 ≤ 140737488355328) (hbase : base ≤ w.heap.size) :
    ∃ v' w', (Builtin.append_ #[39, 39] 39 #[v, vs]).run Tryd.prog w = .ok v' w' ∧ w'.ownsRow base 38 1 v' (n + ys.length) (xs ++ wordsV ys) ∧ w.grownBy w' v.ownBlock := by
  obtain ⟨i0, hi, hz0, hz1, hz2⟩ := info_parts info_word
  obtain ⟨sp, c, rfl, hc⟩ := hr
  have hg : w.grownBy w v.ownBlock := ⟨rfl, rfl, rfl, Nat.le_refl _, fun _ _ _ => rfl⟩
  cases sp with
  | none =>
    have hl : ys.length = 0 := by
      rcases Nat.eq_zero_or_pos ys.length with h | h
      · exact h
      · obtain ⟨g, off, ha, _⟩ := hc 0 (by omega)
        cases ha
    obtain rfl : ys = [] := List.eq_nil_of_length_eq_zero hl
    have hsrc : Src Tryd.prog i0.size 39 (.slice none 0 c) 0 [] w := Src.ofNil w (e' := 38) Tryd.underlying39 c
    rcases id hown.2 with ⟨rfl, rfl⟩ | ⟨g, cap, cur, rfl, h1, h2, h3, h4, h5, h6⟩
    · exact ⟨_, _, run_append_nothing w 39 39 39 38 i0 Tryd.underlying39 hi none 0 0 (Nat.le_refl _) _ hsrc, by simpa [wordsV] using hown, hg⟩
    · exact ⟨_, _, run_append_nothing w 39 39 39 38 i0 Tryd.underlying39 hi (some ⟨g, 0, none⟩) n cap h3 _ hsrc, by simpa [wordsV] using hown, hg⟩
  | some a =>
    obtain ⟨v', w', h1, h2, h3, _⟩ := run_append_own (P := Tryd.prog) w base 39 39 38 i0 (.int .u64 0) 1 8 Tryd.underlying39 hi hz0 hz1 hz2 rfl (by decide) v n xs hown a ys.length c (wordsV ys) (by simp [wordsV])
      (fun j u hj => by
        have hj' : j < ys.length := by
          have := (List.getElem?_eq_some_iff.1 hj).1
          simpa [wordsV] using this
        obtain ⟨g, off, ha', hc'⟩ := hc j hj'
        injection ha' with ha'
        subst ha'
        rw [addr_add, hc', ← hj]
        simp [wordsV, oat, hj'])
      (fun u hu => by
        simp [wordsV] at hu
        obtain ⟨y, _, rfl⟩ := hu
        rfl) (by simp only [maxLen]; omega) hb hbase
    exact ⟨v', w', h1, h2, h3⟩

def marks : List Int := [7000, 7001, 7002]
set_option maxRecDepth 100000 in
set_option maxHeartbeats 1000000 in
theorem lend_any (v : Value) (cs : List Int) (w : World) (hr : Lies w v cs) (hb : cs.length * 8 ≤ 140737488351232) :
    Calls Tryd.prog 19 #[v] w fun e w' => ∃ g c, e = .returned (.slice (some ⟨g, 0, none⟩) cs.length c) ∧ w'.ownsRow w.heap.size 38 1 (.slice (some ⟨g, 0, none⟩) (cs.length + 3) c) (cs.length + 3) (wordsV (cs ++ marks)) ∧ Keeps (fun _ => False) w w' := by
  have ho0 : (w.alloc (.cells #[] 38)).ownsRow w.heap.size 38 1 (.slice (some ⟨w.heap.size, 0, none⟩) 0 0) 0 [] := ⟨rfl, .inr ⟨w.heap.size, 0, #[], rfl, Nat.le_refl _, alloc_block w _, Nat.le_refl _, by unfold maxLen; omega, by simp, by simp⟩⟩
  have hk0 : Keeps (fun _ => False) w (w.alloc (.cells #[] 38)) := (Keeps.refl _ w).alloc _
  obtain ⟨v1, w1, hr1, ho1, hg1⟩ := app_words _ w.heap.size _ 0 [] ho0 v cs (hr.keeps hk0) (by omega) hk0.size
  have hk1 : Keeps (fun _ => False) w w1 := hk0.step (keeps_grown hg1) (fun k hk e => by simp [Value.ownBlock] at e; omega)
  have HR1 : Hid (_ = _) := hr1
  obtain ⟨al, cl, rfl, _⟩ := id hr
  simp only [Nat.zero_add, List.nil_append] at ho1
  clear hr hr1 ho0 hk0 hg1
  go_enter Tryd.func19, Tryd.ntmps19
  go_wp2_with (at_builtin; refine wpList_append_run rfl _ _ 39 rfl rfl rfl HR1.out ?_; clear HR1)
  go_loopw [3, 4] (fun o i wr => ∃ k : Nat, k ≤ 3 ∧ i = .int .i64 k ∧ wr.ownsRow w.heap.size 38 1 o (cs.length + k) (wordsV (cs ++ marks.take k)) ∧ Keeps (fun _ => False) w wr) (fun _ i _ => 3 - (intOf i).toNat)
  case atStart => exact ⟨0, by omega, rfl, by simpa using ho1, hk1⟩
  case round =>
    obtain ⟨k, hk, rfl, hown, hK⟩ := hrel
    by_cases hlt : k < 3
    · have hkl : (k : Int) < 3 := by omega
      have hs := hK.size
      have hw7 : IntKind.u64.wrap (7000 + (k : Int)) = 7000 + (k : Int) := by rw [IntKind.wrap_u64]; omega
      have hwk : IntKind.u64.wrap (k : Int) = (k : Int) := by rw [IntKind.wrap_u64]; omega
      obtain ⟨v2, w2, hr2, ho2, hg2⟩ := app_words _ w.heap.size u3 _ _ (hown.alloc (.cells #[.int .u64 (7000 + (k : Int))] 38)) (.slice (some ⟨wr.heap.size, 0, none⟩) 1 1) [7000 + (k : Int)] ⟨_, 1, rfl, fun i hi => ⟨_, 0, rfl, by
        obtain rfl : i = 0 := by simpa using hi
        exact cell_of_block (alloc_block wr _) 0⟩⟩ (by simp; omega) (by simp; omega)
      have hk2 : Keeps (fun _ => False) w w2 := (hK.alloc _).step (keeps_grown hg2) (fun q hq e => by have := (hown.lt q e).1; omega)
      have hm : marks.take (k + 1) = marks.take k ++ [7000 + (k : Int)] := by
        rcases k with _ | _ | _ | k
        · rfl
        · rfl
        · rfl
        · omega
      have HF : Hid (w2.ownsRow w.heap.size 38 1 v2 (cs.length + (k + 1)) (wordsV (cs ++ marks.take (k + 1)))) := by
        have e1 : wordsV (cs ++ marks.take k) ++ wordsV [7000 + (k : Int)] = wordsV (cs ++ marks.take (k + 1)) := by
          rw [hm, ← List.append_assoc]
          unfold wordsV
          rw [List.map_append (l₁ := cs ++ marks.take k)]
        rw [e1] at ho2
        exact ho2
      have HR2 : Hid (_ = _) := hr2
      obtain ⟨ao, no, co, hu3⟩ : ∃ a n c, u3 = .slice a n c := by
        rcases hown.2 with ⟨e, _⟩ | ⟨g, cap, cur, e, _⟩
        · exact ⟨_, _, _, e⟩
        · exact ⟨_, _, _, e⟩
      subst hu3
      clear hr2 ho2 hg2 hown hm
      go_wp2_with (at_builtin; refine wpList_append_run rfl _ _ 39 rfl rfl rfl HR2.out ?_; clear HR2)
      go_roundw
      case rel => exact ⟨k + 1, by omega, by go_num, HF.out, hk2⟩
      case measure => simp [intOf]; omega
    · obtain rfl : k = 3 := by omega
      rcases id hown.2 with ⟨_, h⟩ | ⟨g, cap, cur, hu, _, _, h3, _, _, _⟩
      · omega
      subst hu
      have hlc : (cs.length : Int) ≤ (cap : Int) := by omega
      have hlc2 : cs.length ≤ cap := by omega
      have HF : Hid (wr.ownsRow w.heap.size 38 1 (.slice (some ⟨g, 0, none⟩) (cs.length + 3) cap) (cs.length + 3) (wordsV (cs ++ marks))) := hown
      clear hown hlt
      go_wp2_with fail
      go_ret
      exact ⟨g, cap, rfl, HF.out, hK⟩

/-- What was lent, later: the words, and the marks behind them. -/
structure LentAt (w : World) (g c : Nat) (cs : List Int) : Prop where
  room : cs.length + 3 ≤ c
  cap : c ≤ maxLen
  cell : ∀ i, i < cs.length + 3 → w.cell? ⟨g, i, none⟩ = some (.int .u64 (oat (cs ++ marks) i))
theorem lent_of {w : World} {base g c : Nat} {cs : List Int} (h : w.ownsRow base 38 1 (.slice (some ⟨g, 0, none⟩) (cs.length + 3) c) (cs.length + 3) (wordsV (cs ++ marks))) : LentAt w g c cs := by
  rcases id h.2 with ⟨_, h⟩ | ⟨g', cap, cur, hu, q1, q2, h3, h4, _, _⟩
  · omega
  injection hu with e1 _ e2
  injection e1 with e1
  injection e1 with e1
  subst e1 e2
  refine ⟨h3, h4, fun i hi => ?_⟩
  rw [World.ownsRow.cellAt h i (by omega)]
  simp [wordsV, oat, marks, List.getElem?_append]
  split
  · simp_all
  · rename_i hn
    obtain hi' | hi' | hi' : i - cs.length = 0 ∨ i - cs.length = 1 ∨ i - cs.length = 2 := by omega
    · rw [hi']; simp
    · rw [hi']; simp
    · rw [hi']; simp
theorem LentAt.reads {w : World} {g c : Nat} {cs : List Int} (h : LentAt w g c cs) (hl : cs.length ≤ 35184372088832) : Reads w (.slice (some ⟨g, 0, none⟩) cs.length c) cs :=
  ⟨hl, _, _, rfl, fun i hi => ⟨g, 0, rfl, by rw [Nat.zero_add, h.cell i (by omega)]; simp [oat, List.getElem?_append, hi]⟩⟩
theorem LentAt.keeps {w w' : World} {g c : Nat} {cs : List Int} (h : LentAt w g c cs) (k : Keeps (fun _ => False) w w') : LentAt w' g c cs :=
  ⟨h.room, h.cap, fun i hi => (World.cell?_of_block (k.block g (World.block_lt_of_cell? _ _ (h.cell i hi)) (fun f => f))).trans (h.cell i hi)⟩
theorem LentAt.like {w w' : World} {g c : Nat} {cs : List Int} (h : LentAt w g c cs) (l : Like w' w) : LentAt w' g c cs := h.keeps (l.keeps (Keeps.refl _ _))

set_option maxRecDepth 100000 in
set_option maxHeartbeats 1000000 in
theorem kept_any (g c : Nat) (v2 : Value) (cs : List Int) (w : World) (h : LentAt w g c cs) (hr : Reads w v2 cs) :
    Calls Tryd.prog 23 #[.slice (some ⟨g, 0, none⟩) cs.length c, v2] w fun e w' => e = .returned (.bool true) ∧ Like w' w := by
  have hl := hr.1
  have hW := words_same _ v2 cs w (h.reads hl) hr
  obtain ⟨a2, c2, rfl⟩ := hr.form
  have hw3 : IntKind.i64.wrap ((cs.length : Int) + 3) = (cs.length : Int) + 3 := by rw [IntKind.wrap_i64]; omega
  have hroom : (cs.length : Int) + 3 ≤ (c : Int) := by have := h.room; omega
  go_enter Tryd.func23, Tryd.ntmps23
  go_wp2_with fail
  refine hW.mono ?_
  rintro e w1 ⟨rfl, hl1⟩
  have h1 := h.like hl1
  clear hW h hr
  go_wp2_with fail
  go_loop [6] (fun i => ∃ k : Nat, k ≤ 3 ∧ i = .int .i64 k) (fun i => 3 - (intOf i).toNat)
  case atStart => exact ⟨0, by omega, rfl⟩
  case round =>
    obtain ⟨k, hk, rfl⟩ := hrel
    by_cases hlt : k < 3
    · have hkl : (k : Int) < 3 := by omega
      have hx := h1.cell (cs.length + k) (by omega)
      have hm : oat (cs ++ marks) (cs.length + k) = 7000 + (k : Int) := by
        unfold oat
        rw [List.getElem?_append_right (by omega), Nat.add_sub_cancel_left]
        rcases k with _ | _ | _ | k
        · rfl
        · rfl
        · rfl
        · omega
      rw [hm] at hx
      have hw7 : IntKind.u64.wrap (7000 + (k : Int)) = 7000 + (k : Int) := by rw [IntKind.wrap_u64]; omega
      have hwk : IntKind.u64.wrap (k : Int) = (k : Int) := by rw [IntKind.wrap_u64]; omega
      have hws : IntKind.i64.wrap ((cs.length : Int) + (k : Int)) = (cs.length : Int) + (k : Int) := by rw [IntKind.wrap_i64]; omega
      have hi0 : 0 ≤ (cs.length : Int) + (k : Int) := by omega
      have hi1 : (cs.length : Int) + (k : Int) < (cs.length : Int) + 3 := by omega
      have hi2 : ((cs.length : Int) + (k : Int)).toNat = cs.length + k := by omega
      clear hm h1
      go_wp2_with fail
      go_round
      case rel => exact ⟨k + 1, by omega, by go_num⟩
      case measure => simp [intOf]; omega
    · obtain rfl : k = 3 := by omega
      clear hlt
      go_wp2_with fail
      go_ret
      exact ⟨rfl, hl1⟩
end Go.Proofs.YtbgnlenhncbceaaDoor
