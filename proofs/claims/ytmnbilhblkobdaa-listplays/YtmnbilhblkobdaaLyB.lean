
/- The document's Insert into a plain set (layer 21). No statement of the seat is proved here. -/
import Derived.Test.YtmnbilhblkobdaaLyA
namespace Go.Proofs.Ytmnbilhblkobdaa
open Go.RowKit

theorem Wr.kr {w : World} {v : Value} {l : List Int} {g c : Nat} (hv : v = .slice (adr g c) l.length c) (hc : l.length ≤ c) (h : c = 0 ∨ ∃ cur, w.heap[g]? = some (.cells cur 25 (0, 0)) ∧ ∀ i, i < l.length → cur[i]? = some (.int .u64 (oat l i))) (h0 : l = [] → c = 0) : KR w v l := by
  by_cases hl : l = []
  · left
    refine ⟨?_, hl⟩
    rw [hv, h0 hl, hl]
    rfl
  · right
    have hlp : 0 < l.length := List.length_pos_iff.2 hl
    have hc0 : c ≠ 0 := by omega
    rcases h with q | ⟨cur, h1, h2⟩
    · exact absurd q hc0
    · exact ⟨g, c, by rw [hv, adr_pos hc0], hlp, hc, fun i hi => by rw [cell_of_block h1, h2 i hi]⟩
theorem Pl.uniq {l : List Int} {key : Int} {i j : Nat} (h : Pl l key i) (k : Pl l key j) : i = j := by
  obtain ⟨h1, h2, h3⟩ := h
  obtain ⟨k1, k2, k3⟩ := k
  rcases Nat.lt_trichotomy i j with q | q | q
  · have := h3 (by omega); have := k2 i q; omega
  · exact q
  · have := k3 (by omega); have := h2 j q; omega
theorem pl_ex (l : List Int) (key : Int) : ∃ i, Pl l key i := by
  induction l with
  | nil => exact ⟨0, Nat.le_refl _, fun j hj => absurd hj (by omega), fun q => absurd q (by simp)⟩
  | cons a l ih =>
    by_cases h : a < key
    · obtain ⟨i, h1, h2, h3⟩ := ih
      refine ⟨i + 1, by simp; omega, fun j hj => ?_, fun q => ?_⟩
      · cases j with
        | zero => exact h
        | succ j => exact h2 j (by omega)
      · exact h3 (by simp at q; omega)
    · exact ⟨0, Nat.zero_le _, fun j hj => absurd hj (by omega), fun _ => by show key ≤ a; omega⟩
theorem oat_take {l : List Int} {i j : Nat} (h : j < i) : oat (l.take i) j = oat l j := by
  unfold oat; rw [List.getElem?_take_of_lt h]
theorem oat_drop (l : List Int) (i j : Nat) : oat (l.drop i) j = oat l (i + j) := by
  unfold oat; rw [List.getElem?_drop]
set_option maxRecDepth 100000 in
set_option maxHeartbeats 2000000 in
theorem rinsert_any (v : Value) (l : List Int) (key : Int) (hl : l.length ≤ 1000) (w : World) (h : KR w v l) : Calls Try.prog 20 #[v, .int .u64 key] w fun e w' => ∃ i v', Pl l key i ∧ e = .returned v' ∧ (if i < l.length ∧ oat l i = key then v' = v else Wr w' w.heap.size v' (l.take i ++ [key] ++ l.drop i)) ∧ Keeps (fun _ => False) w w' := by
  have HL := hid h.lies
  rcases h with ⟨rfl, rfl⟩ | ⟨g, c, rfl, hpos, hcap, hcell⟩
  · have ht : ∀ i, Pl [] key i → i = 0 := fun i hi => by have := hi.1; simpa using this
    have hp0 : Pl [] key 0 := ⟨Nat.le_refl _, fun j hj => absurd hj (by omega), fun q => absurd q (by simp)⟩
    obtain ⟨g1, c1, w1, hrun1, k1, hc1, hw1, _⟩ := app_nil w (.slice none 0 0) (([] : List Int)) HL.out (by simp)
    obtain ⟨ad1, had⟩ : ∃ ad1, adr g1 c1 = ad1 := ⟨_, rfl⟩
    rw [had] at hrun1 hw1
    obtain ⟨v2, w2, hrun2, hw2, k2⟩ := hw1.push (x := key) k1.size (by simp)
    obtain ⟨a2, c2, rfl⟩ := hw2.form
    have k12 : Keeps (fun _ => False) w w2 := k1.step k2 (fun i hi e => by omega)
    obtain ⟨v3, w3, hrun3, ho3, g3⟩ := app_words w2 w.heap.size _ _ _ hw2 (.slice none 0 0) (([] : List Int)) (HL.out.keeps k12 (fun _ _ _ _ f => f)) (by simp) k12.size
    have k3 : Keeps (fun _ => False) w w3 := k12.step (keeps_grown g3) (fun i hi e => by have := (own_block hw2 e).2; omega)
    have hw3 : Wr w3 w.heap.size v3 (([] : List Int) ++ [key] ++ ([] : List Int)) := by
      unfold Wr
      rw [wordsV_append, List.length_append]
      exact ho3
    simp only [List.nil_append, List.append_nil, List.length_nil, List.length_cons, Nat.zero_add] at hrun1 hrun2 hrun3 hw3
    obtain ⟨a3, c3, rfl⟩ := hw3.form
    have H1 := hid hrun1
    have H2 := hid hrun2
    have H3 := hid hrun3
    have HW := hid (And.intro hw3 k3)
    clear hrun1 hrun2 hrun3 hw1 hw2 hw3 k1 k2 k12 k3 ho3 g3 hc1 had
    go_enter Try.func20, Try.ntmps20
    go_wp2_with fail
    refine (rhas_any _ [] key (by simp) w HL.out).mono ?_
    rintro e_ w_ ⟨i, hi, rfl, hw_⟩
    subst w_
    simp only [List.length_nil, Nat.not_lt_zero, decide_false, Bool.false_and]
    go_wp2_with fail
    refine (place_any _ [] key (by simp) w HL.out).mono ?_
    rintro e_ w_ ⟨i', hi', rfl, hw_⟩
    subst w_
    obtain rfl := ht i' hi'
    go_wp2_with (at_builtin; first | (refine wpList_append_run rfl _ _ 30 rfl rfl rfl H1.out ?_; clear H1) | (refine wpList_append_run rfl _ _ 30 rfl rfl rfl H2.out ?_; clear H2) | (refine wpList_append_run rfl _ _ 30 rfl rfl rfl H3.out ?_; clear H3))
    go_ret
    exact ⟨0, _, hp0, rfl, by simpa using HW.out.1, HW.out.2⟩
  · have HC := hid hcell
    clear hcell
    obtain ⟨i, hi⟩ : ∃ i, Pl l key i := pl_ex l key
    have HI := hid hi
    have hile := hi.1
    clear hi
    by_cases hlt : i < l.length
    · by_cases heq : oat l i = key
      · have hb : (decide (i < l.length) && (oat l i == key)) = true := by simp [hlt, heq]
        go_enter Try.func20, Try.ntmps20
        go_wp2_with fail
        refine (rhas_any _ l key (by omega) w HL.out).mono ?_
        rintro e_ w_ ⟨i', hi', rfl, hw_⟩
        subst w_
        obtain rfl := HI.out.uniq hi'
        clear hi'
        rw [hb]
        go_wp2_with fail
        go_ret
        exact ⟨i, _, HI.out, rfl, by rw [if_pos ⟨hlt, heq⟩]; rfl, Keeps.refl _ _⟩
      · have hb : (decide (i < l.length) && (oat l i == key)) = false := by simp [heq]
        have hno : ¬ (i < l.length ∧ oat l i = key) := fun q => heq q.2
        have hx1 : (i : Int) ≤ (l.length : Int) := by omega
        have hx2 : ¬ c = i := by omega
        have hx3 : i ≤ c := by omega
        have hit : (l.take i).length = i := by rw [List.length_take]; omega
        have HL1 : Lies w (.slice (some ⟨g, 0, none⟩) i c) (l.take i) := ⟨_, c, by rw [hit], fun j hj => ⟨g, 0, rfl, by rw [Nat.zero_add, oat_take (by omega)]; exact HC.out j (by rw [hit] at hj; omega)⟩⟩
        have HL3 : Lies w (.slice (some ⟨g, i, none⟩) (l.length - i) (c - i)) (l.drop i) := ⟨_, _, by rw [List.length_drop], fun j hj => ⟨g, i, rfl, by rw [oat_drop]; exact HC.out (i + j) (by rw [List.length_drop] at hj; omega)⟩⟩
        obtain ⟨g1, c1, w1, hrun1, k1, hc1, hw1, _⟩ := app_nil w (.slice (some ⟨g, 0, none⟩) i c) ((l.take i)) HL1 (by rw [hit]; omega)
        obtain ⟨ad1, had⟩ : ∃ ad1, adr g1 c1 = ad1 := ⟨_, rfl⟩
        rw [had] at hrun1 hw1
        obtain ⟨v2, w2, hrun2, hw2, k2⟩ := hw1.push (x := key) k1.size (by rw [hit]; omega)
        obtain ⟨a2, c2, rfl⟩ := hw2.form
        have k12 : Keeps (fun _ => False) w w2 := k1.step k2 (fun i hi e => by omega)
        obtain ⟨v3, w3, hrun3, ho3, g3⟩ := app_words w2 w.heap.size _ _ _ hw2 (.slice (some ⟨g, i, none⟩) (l.length - i) (c - i)) ((l.drop i)) (HL3.keeps k12 (fun _ _ _ _ f => f)) (by simp only [List.length_append, List.length_cons, List.length_nil, List.length_drop, hit]; omega) k12.size
        have k3 : Keeps (fun _ => False) w w3 := k12.step (keeps_grown g3) (fun i hi e => by have := (own_block hw2 e).2; omega)
        have hw3 : Wr w3 w.heap.size v3 ((l.take i) ++ [key] ++ (l.drop i)) := by
          unfold Wr
          rw [wordsV_append, List.length_append]
          exact ho3
        have hit2 : (l.take i ++ [key]).length = i + 1 := by rw [List.length_append, hit]; rfl
        rw [hit] at hrun1 hrun2
        rw [hit2] at hrun2 hrun3
        obtain ⟨a3, c3, rfl⟩ := hw3.form
        have H1 := hid hrun1
        have H2 := hid hrun2
        have H3 := hid hrun3
        have HW := hid (And.intro hw3 k3)
        generalize (l.take i ++ [key] ++ l.drop i).length = L3 at H3 HW
        clear hrun1 hrun2 hrun3 hw1 hw2 hw3 k1 k2 k12 k3 ho3 g3 hc1 had hit hit2 HL1 HL3
        go_enter Try.func20, Try.ntmps20
        go_wp2_with fail
        refine (rhas_any _ l key (by omega) w HL.out).mono ?_
        rintro e_ w_ ⟨i', hi', rfl, hw_⟩
        subst w_
        obtain rfl := HI.out.uniq hi'
        clear hi'
        rw [hb]
        go_wp2_with fail
        refine (place_any _ l key (by omega) w HL.out).mono ?_
        rintro e_ w_ ⟨i', hi', rfl, hw_⟩
        subst w_
        obtain rfl := HI.out.uniq hi'
        clear hi'
        go_wp2_with (at_builtin; first | (refine wpList_append_run rfl _ _ 30 rfl rfl rfl H1.out ?_; clear H1) | (refine wpList_append_run rfl _ _ 30 rfl rfl rfl H2.out ?_; clear H2) | (refine wpList_append_run rfl _ _ 30 rfl rfl rfl H3.out ?_; clear H3))
        go_ret
        exact ⟨i, _, HI.out, rfl, by rw [if_neg hno]; exact HW.out.1, HW.out.2⟩
    · have hb : (decide (i < l.length) && (oat l i == key)) = false := by simp [hlt]
      have hno : ¬ (i < l.length ∧ oat l i = key) := fun q => hlt q.1
      have hx1 : (i : Int) ≤ (l.length : Int) := by omega
      by_cases hci : c = i
      · subst hci
        have hx4 : l.length = c := by omega
        have hit : (l.take c).length = c := by rw [List.length_take]; omega
        have HL1 : Lies w (.slice (some ⟨g, 0, none⟩) c c) (l.take c) := ⟨_, c, by rw [hit], fun j hj => ⟨g, 0, rfl, by rw [Nat.zero_add, oat_take (by omega)]; exact HC.out j (by rw [hit] at hj; omega)⟩⟩
        have HL3 : Lies w (.slice (some ⟨g, 0, none⟩) (l.length - c) 0) (l.drop c) := ⟨_, _, by rw [List.length_drop], fun j hj => ⟨g, 0, rfl, by rw [List.length_drop] at hj; omega⟩⟩
        obtain ⟨g1, c1, w1, hrun1, k1, hc1, hw1, _⟩ := app_nil w (.slice (some ⟨g, 0, none⟩) c c) ((l.take c)) HL1 (by rw [hit]; omega)
        obtain ⟨ad1, had⟩ : ∃ ad1, adr g1 c1 = ad1 := ⟨_, rfl⟩
        rw [had] at hrun1 hw1
        obtain ⟨v2, w2, hrun2, hw2, k2⟩ := hw1.push (x := key) k1.size (by rw [hit]; omega)
        obtain ⟨a2, c2, rfl⟩ := hw2.form
        have k12 : Keeps (fun _ => False) w w2 := k1.step k2 (fun i hi e => by omega)
        obtain ⟨v3, w3, hrun3, ho3, g3⟩ := app_words w2 w.heap.size _ _ _ hw2 (.slice (some ⟨g, 0, none⟩) (l.length - c) 0) ((l.drop c)) (HL3.keeps k12 (fun _ _ _ _ f => f)) (by simp only [List.length_append, List.length_cons, List.length_nil, List.length_drop, hit]; omega) k12.size
        have k3 : Keeps (fun _ => False) w w3 := k12.step (keeps_grown g3) (fun i hi e => by have := (own_block hw2 e).2; omega)
        have hw3 : Wr w3 w.heap.size v3 ((l.take c) ++ [key] ++ (l.drop c)) := by
          unfold Wr
          rw [wordsV_append, List.length_append]
          exact ho3
        have hit2 : (l.take c ++ [key]).length = c + 1 := by rw [List.length_append, hit]; rfl
        rw [hit] at hrun1 hrun2
        rw [hit2] at hrun2 hrun3
        obtain ⟨a3, c3, rfl⟩ := hw3.form
        have H1 := hid hrun1
        have H2 := hid hrun2
        have H3 := hid hrun3
        have HW := hid (And.intro hw3 k3)
        generalize (l.take c ++ [key] ++ l.drop c).length = L3 at H3 HW
        clear hrun1 hrun2 hrun3 hw1 hw2 hw3 k1 k2 k12 k3 ho3 g3 hc1 had hit hit2 HL1 HL3
        have hx5 : l.length - c = 0 := by omega
        rw [hx5] at H3
        clear hx4 hx5
        go_enter Try.func20, Try.ntmps20
        go_wp2_with fail
        refine (rhas_any _ l key (by omega) w HL.out).mono ?_
        rintro e_ w_ ⟨i', hi', rfl, hw_⟩
        subst w_
        obtain rfl := HI.out.uniq hi'
        clear hi'
        rw [hb]
        go_wp2_with fail
        refine (place_any _ l key (by omega) w HL.out).mono ?_
        rintro e_ w_ ⟨i', hi', rfl, hw_⟩
        subst w_
        obtain rfl := HI.out.uniq hi'
        clear hi'
        go_wp2_with (at_builtin; first | (refine wpList_append_run rfl _ _ 30 rfl rfl rfl H1.out ?_; clear H1) | (refine wpList_append_run rfl _ _ 30 rfl rfl rfl H2.out ?_; clear H2) | (refine wpList_append_run rfl _ _ 30 rfl rfl rfl H3.out ?_; clear H3))
        go_ret
        exact ⟨_, _, HI.out, rfl, by rw [if_neg hno]; exact HW.out.1, HW.out.2⟩
      · have hx2 : ¬ c = i := hci
        have hx3 : i ≤ c := by omega
        have hit : (l.take i).length = i := by rw [List.length_take]; omega
        have HL1 : Lies w (.slice (some ⟨g, 0, none⟩) i c) (l.take i) := ⟨_, c, by rw [hit], fun j hj => ⟨g, 0, rfl, by rw [Nat.zero_add, oat_take (by omega)]; exact HC.out j (by rw [hit] at hj; omega)⟩⟩
        have HL3 : Lies w (.slice (some ⟨g, i, none⟩) (l.length - i) (c - i)) (l.drop i) := ⟨_, _, by rw [List.length_drop], fun j hj => ⟨g, i, rfl, by rw [oat_drop]; exact HC.out (i + j) (by rw [List.length_drop] at hj; omega)⟩⟩
        obtain ⟨g1, c1, w1, hrun1, k1, hc1, hw1, _⟩ := app_nil w (.slice (some ⟨g, 0, none⟩) i c) ((l.take i)) HL1 (by rw [hit]; omega)
        obtain ⟨ad1, had⟩ : ∃ ad1, adr g1 c1 = ad1 := ⟨_, rfl⟩
        rw [had] at hrun1 hw1
        obtain ⟨v2, w2, hrun2, hw2, k2⟩ := hw1.push (x := key) k1.size (by rw [hit]; omega)
        obtain ⟨a2, c2, rfl⟩ := hw2.form
        have k12 : Keeps (fun _ => False) w w2 := k1.step k2 (fun i hi e => by omega)
        obtain ⟨v3, w3, hrun3, ho3, g3⟩ := app_words w2 w.heap.size _ _ _ hw2 (.slice (some ⟨g, i, none⟩) (l.length - i) (c - i)) ((l.drop i)) (HL3.keeps k12 (fun _ _ _ _ f => f)) (by simp only [List.length_append, List.length_cons, List.length_nil, List.length_drop, hit]; omega) k12.size
        have k3 : Keeps (fun _ => False) w w3 := k12.step (keeps_grown g3) (fun i hi e => by have := (own_block hw2 e).2; omega)
        have hw3 : Wr w3 w.heap.size v3 ((l.take i) ++ [key] ++ (l.drop i)) := by
          unfold Wr
          rw [wordsV_append, List.length_append]
          exact ho3
        have hit2 : (l.take i ++ [key]).length = i + 1 := by rw [List.length_append, hit]; rfl
        rw [hit] at hrun1 hrun2
        rw [hit2] at hrun2 hrun3
        obtain ⟨a3, c3, rfl⟩ := hw3.form
        have H1 := hid hrun1
        have H2 := hid hrun2
        have H3 := hid hrun3
        have HW := hid (And.intro hw3 k3)
        generalize (l.take i ++ [key] ++ l.drop i).length = L3 at H3 HW
        clear hrun1 hrun2 hrun3 hw1 hw2 hw3 k1 k2 k12 k3 ho3 g3 hc1 had hit hit2 HL1 HL3
        go_enter Try.func20, Try.ntmps20
        go_wp2_with fail
        refine (rhas_any _ l key (by omega) w HL.out).mono ?_
        rintro e_ w_ ⟨i', hi', rfl, hw_⟩
        subst w_
        obtain rfl := HI.out.uniq hi'
        clear hi'
        rw [hb]
        go_wp2_with fail
        refine (place_any _ l key (by omega) w HL.out).mono ?_
        rintro e_ w_ ⟨i', hi', rfl, hw_⟩
        subst w_
        obtain rfl := HI.out.uniq hi'
        clear hi'
        go_wp2_with (at_builtin; first | (refine wpList_append_run rfl _ _ 30 rfl rfl rfl H1.out ?_; clear H1) | (refine wpList_append_run rfl _ _ 30 rfl rfl rfl H2.out ?_; clear H2) | (refine wpList_append_run rfl _ _ 30 rfl rfl rfl H3.out ?_; clear H3))
        go_ret
        exact ⟨i, _, HI.out, rfl, by rw [if_neg hno]; exact HW.out.1, HW.out.2⟩
end Go.Proofs.Ytmnbilhblkobdaa
