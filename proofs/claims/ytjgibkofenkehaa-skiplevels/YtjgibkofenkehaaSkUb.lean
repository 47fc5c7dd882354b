
/- The law SkipLevels walked (layer 22). No statement of the seat is proved here. -/
import Derived.Test.YtjgibkofenkehaaSkU
namespace Go.Proofs.Ytjgibkofenkehaa
open Go.RowKit

def marks : List Int := [7000, 7001, 7002]
set_option maxRecDepth 100000 in
set_option maxHeartbeats 1000000 in
theorem wlend_any (v : Value) (cs : List Int) (w : World) (hr : Lies w v cs) (hb : cs.length * 8 ≤ 140737488351232) :
    Calls Try.prog 21 #[v] w fun e w' => ∃ g c, e = .returned (.slice (some ⟨g, 0, none⟩) cs.length c) ∧ w'.ownsRow w.heap.size 32 1 (.slice (some ⟨g, 0, none⟩) (cs.length + 3) c) (cs.length + 3) (wordsV (cs ++ marks)) ∧ Keeps (fun _ => False) w w' := by
  have ho0 : (w.alloc (.cells #[] 32)).ownsRow w.heap.size 32 1 (.slice (some ⟨w.heap.size, 0, none⟩) 0 0) 0 [] := ⟨rfl, .inr ⟨w.heap.size, 0, #[], rfl, Nat.le_refl _, alloc_block w _, Nat.le_refl _, by unfold maxLen; omega, by simp, by simp⟩⟩
  have hk0 : Keeps (fun _ => False) w (w.alloc (.cells #[] 32)) := (Keeps.refl _ w).alloc _
  obtain ⟨v1, w1, hr1, ho1, hg1⟩ := app_words _ w.heap.size _ 0 [] ho0 v cs (hr.keeps hk0 (fun _ _ _ _ f => f)) (by omega) hk0.size
  have hk1 : Keeps (fun _ => False) w w1 := hk0.step (keeps_grown hg1) (fun k hk e => by simp [Value.ownBlock] at e; omega)
  have HR1 : Hid (_ = _) := hr1
  obtain ⟨al, cl, rfl, _⟩ := id hr
  simp only [Nat.zero_add, List.nil_append] at ho1
  clear hr hr1 ho0 hk0 hg1
  go_enter Try.func21, Try.ntmps21
  go_wp2_with (at_builtin; refine wpList_append_run rfl _ _ 22 rfl rfl rfl HR1.out ?_; clear HR1)
  go_loopw [3, 4] (fun o i wr => ∃ k : Nat, k ≤ 3 ∧ i = .int .i64 k ∧ wr.ownsRow w.heap.size 32 1 o (cs.length + k) (wordsV (cs ++ marks.take k)) ∧ Keeps (fun _ => False) w wr) (fun _ i _ => 3 - (intOf i).toNat)
  case atStart => exact ⟨0, by omega, rfl, by simpa using ho1, hk1⟩
  case round =>
    obtain ⟨k, hk, rfl, hown, hK⟩ := hrel
    by_cases hlt : k < 3
    · have hkl : (k : Int) < 3 := by omega
      have hs := hK.size
      have hw7 : IntKind.u64.wrap (7000 + (k : Int)) = 7000 + (k : Int) := by rw [IntKind.wrap_u64]; omega
      have hwk : IntKind.u64.wrap (k : Int) = (k : Int) := by rw [IntKind.wrap_u64]; omega
      obtain ⟨v2, w2, hr2, ho2, hg2⟩ := app_words _ w.heap.size u3 _ _ (hown.alloc (.cells #[.int .u64 (7000 + (k : Int))] 32)) (.slice (some ⟨wr.heap.size, 0, none⟩) 1 1) [7000 + (k : Int)] ⟨_, 1, rfl, fun i hi => ⟨_, 0, rfl, by
        obtain rfl : i = 0 := by simpa using hi
        exact cell_of_block (alloc_block wr _) 0⟩⟩ (by simp; omega) (by simp; omega)
      have hk2 : Keeps (fun _ => False) w w2 := (hK.alloc _).step (keeps_grown hg2) (fun q hq e => by have := (hown.lt q e).1; omega)
      have hm : marks.take (k + 1) = marks.take k ++ [7000 + (k : Int)] := by
        rcases k with _ | _ | _ | k
        · rfl
        · rfl
        · rfl
        · omega
      have HF : Hid (w2.ownsRow w.heap.size 32 1 v2 (cs.length + (k + 1)) (wordsV (cs ++ marks.take (k + 1)))) := by
        have e1 : wordsV (cs ++ marks.take k) ++ wordsV [7000 + (k : Int)] = wordsV (cs ++ marks.take (k + 1)) := by
          rw [hm, ← List.append_assoc]
          unfold wordsV
          rw [List.map_append (l₁ := cs ++ marks.take k)]
        rw [e1] at ho2
        exact ho2
      have HR2 : Hid (_ = _) := hr2
      obtain ⟨ao, no, co, hu3⟩ : ∃ a n c, u3 = .slice a n c := by
        rcases hown.2 with ⟨e, _⟩ | ⟨g, cap, cur, e, _⟩
        · exact ⟨_, _, _, e⟩
        · exact ⟨_, _, _, e⟩
      subst hu3
      clear hr2 ho2 hg2 hown hm
      go_wp2_with (at_builtin; refine wpList_append_run rfl _ _ 22 rfl rfl rfl HR2.out ?_; clear HR2)
      go_roundw
      case rel => exact ⟨k + 1, by omega, by go_num, HF.out, hk2⟩
      case measure => simp [intOf]; omega
    · obtain rfl : k = 3 := by omega
      rcases id hown.2 with ⟨_, h⟩ | ⟨g, cap, cur, hu, _, _, h3, _, _, _⟩
      · omega
      subst hu
      have hlc : (cs.length : Int) ≤ (cap : Int) := by omega
      have hlc2 : cs.length ≤ cap := by omega
      have HF : Hid (wr.ownsRow w.heap.size 32 1 (.slice (some ⟨g, 0, none⟩) (cs.length + 3) cap) (cs.length + 3) (wordsV (cs ++ marks))) := hown
      clear hown hlt
      go_wp2_with fail
      go_ret
      exact ⟨g, cap, rfl, HF.out, hK⟩

/-- What was lent, later: the words, and the marks behind them. -/
structure LentW (w : World) (g c : Nat) (cs : List Int) : Prop where
  room : cs.length + 3 ≤ c
  cap : c ≤ maxLen
  cell : ∀ i, i < cs.length + 3 → w.cell? ⟨g, i, none⟩ = some (.int .u64 (oat (cs ++ marks) i))
theorem lentw_of {w : World} {base g c : Nat} {cs : List Int} (h : w.ownsRow base 32 1 (.slice (some ⟨g, 0, none⟩) (cs.length + 3) c) (cs.length + 3) (wordsV (cs ++ marks))) : LentW w g c cs := by
  rcases id h.2 with ⟨_, h⟩ | ⟨g', cap, cur, hu, q1, q2, h3, h4, _, _⟩
  · omega
  injection hu with e1 _ e2
  injection e1 with e1
  injection e1 with e1
  subst e1 e2
  refine ⟨h3, h4, fun i hi => ?_⟩
  rw [World.ownsRow.cellAt h i (by omega)]
  simp [wordsV, oat, marks, List.getElem?_append]
  split
  · simp_all
  · rename_i hn
    obtain hi' | hi' | hi' : i - cs.length = 0 ∨ i - cs.length = 1 ∨ i - cs.length = 2 := by omega
    · rw [hi']; simp
    · rw [hi']; simp
    · rw [hi']; simp
theorem LentW.lies {w : World} {g c : Nat} {cs : List Int} (h : LentW w g c cs) : Lies w (.slice (some ⟨g, 0, none⟩) cs.length c) cs :=
  ⟨_, _, rfl, fun i hi => ⟨g, 0, rfl, by rw [Nat.zero_add, h.cell i (by omega)]; simp [oat, List.getElem?_append, hi]⟩⟩
theorem LentW.keeps {w w' : World} {g c : Nat} {cs : List Int} {S : Nat → Prop} (h : LentW w g c cs) (k : Keeps S w w') (hg : ¬ S g) : LentW w' g c cs :=
  ⟨h.room, h.cap, fun i hi => (World.cell?_of_block (k.block g (World.block_lt_of_cell? _ _ (h.cell i hi)) hg)).trans (h.cell i hi)⟩
set_option maxRecDepth 100000 in
set_option maxHeartbeats 1000000 in
theorem wkept_any (g c : Nat) (v2 : Value) (cs : List Int) (hl : cs.length ≤ 17592186044416) (w : World) (h : LentW w g c cs) (hr : Lies w v2 cs) :
    Calls Try.prog 24 #[.slice (some ⟨g, 0, none⟩) cs.length c, v2] w fun e w' => e = .returned (.bool true) ∧ ∃ m, w' = w.drewN m := by
  have hW := words_same _ v2 cs hl w h.lies hr
  obtain ⟨a2, c2, rfl, _⟩ := id hr
  have hw3 : IntKind.i64.wrap ((cs.length : Int) + 3) = (cs.length : Int) + 3 := by rw [IntKind.wrap_i64]; omega
  have hroom : (cs.length : Int) + 3 ≤ (c : Int) := by have := h.room; omega
  go_enter Try.func24, Try.ntmps24
  go_wp2_with fail
  refine hW.mono ?_
  rintro e w1 ⟨rfl, mm, rfl⟩
  have h1 := h.keeps (S := fun _ => False) ((Keeps.refl _ w).drewN mm) (fun f => f)
  clear hW h hr
  go_wp2_with fail
  go_loop [6] (fun i => ∃ k : Nat, k ≤ 3 ∧ i = .int .i64 k) (fun i => 3 - (intOf i).toNat)
  case atStart => exact ⟨0, by omega, rfl⟩
  case round =>
    obtain ⟨k, hk, rfl⟩ := hrel
    by_cases hlt : k < 3
    · have hkl : (k : Int) < 3 := by omega
      have hx := h1.cell (cs.length + k) (by omega)
      have hm : oat (cs ++ marks) (cs.length + k) = 7000 + (k : Int) := by
        unfold oat
        rw [List.getElem?_append_right (by omega), Nat.add_sub_cancel_left]
        rcases k with _ | _ | _ | k
        · rfl
        · rfl
        · rfl
        · omega
      rw [hm] at hx
      have hw7 : IntKind.u64.wrap (7000 + (k : Int)) = 7000 + (k : Int) := by rw [IntKind.wrap_u64]; omega
      have hwk : IntKind.u64.wrap (k : Int) = (k : Int) := by rw [IntKind.wrap_u64]; omega
      have hws : IntKind.i64.wrap ((cs.length : Int) + (k : Int)) = (cs.length : Int) + (k : Int) := by rw [IntKind.wrap_i64]; omega
      have hi0 : 0 ≤ (cs.length : Int) + (k : Int) := by omega
      have hi1 : (cs.length : Int) + (k : Int) < (cs.length : Int) + 3 := by omega
      have hi2 : ((cs.length : Int) + (k : Int)).toNat = cs.length + k := by omega
      clear hm h1
      go_wp2_with fail
      go_round
      case rel => exact ⟨k + 1, by omega, by go_num⟩
      case measure => simp [intOf]; omega
    · obtain rfl : k = 3 := by omega
      clear hlt
      go_wp2_with fail
      go_ret
      exact ⟨rfl, mm, rfl⟩

set_option maxHeartbeats 1000000 in
theorem levels_walk (v : Value) (l : List Int) (hw : ∀ x ∈ l, isW x) (hb : l.length * 8 ≤ 140737488351232) (w : World) (h : Lies w v l) :
    Calls Try.prog 6 #[v] w fun e w' => e = .returned (.bool true) ∧ Keeps (fun _ => False) w w' := by
  have hl : l.length ≤ 17592186044416 := by omega
  have HL := hid h
  clear h
  go_enter Try.func6, Try.ntmps6
  go_wp2_with fail
  refine (wlend_any v l _ HL.out hb).mono ?_
  rintro e_ w1 ⟨g, c, rfl, h1, k1⟩
  have hle := lentw_of h1
  have HLE := hid hle
  have HL1 := hid (HL.out.keeps k1 (fun _ _ _ _ f => f))
  have K1 := hid k1
  clear h1 k1 hle HL
  go_wp2_with fail
  refine (level_any _ l hw hl _ HLE.out.lies).mono ?_
  rintro e_ w_ ⟨rfl, hw_⟩
  subst w_
  go_wp2_with fail
  refine (rlevel_any _ l hw hl _ HL1.out).mono ?_
  rintro e_ w_ ⟨rfl, hw_⟩
  subst w_
  go_wp2_with fail
  refine (wkept_any g c v l hl _ HLE.out HL1.out).mono ?_
  rintro e_ w2 ⟨rfl, m, hw2⟩
  have K2 : Hid (Keeps (fun _ => False) w w2) := by rw [hw2]; exact hid (K1.out.drewN m)
  clear K1 hw2
  go_wp2_with fail
  refine (known_any _).mono ?_
  rintro e_ w3 ⟨rfl, k3⟩
  have K3 := hid (K2.out.trans k3)
  clear k3 K2
  go_wp2_with fail
  go_ret
  exact ⟨rfl, K3.out⟩
end Go.Proofs.Ytjgibkofenkehaa
