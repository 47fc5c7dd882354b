/-
  No statement of the seat is proved here. (Several texts in one: LyX0, LyX1, LyX2, LyX3, LyX4, LyX5, LyX6, LyX7, LyX8, LyX9.)
-/
import Derived.Test.YtmnbilhblkobdaaLyW

/- The document's reply to a step, kind by kind (layer 21). No statement of the seat is proved here. -/
namespace Go.Proofs.Ytmnbilhblkobdaa
open Go.RowKit

set_option maxRecDepth 100000 in
set_option maxHeartbeats 4000000 in
theorem answer_0 (v : Value) (K : List Int) (kind on key : Int) (sp : Bool) (_hK : K.length ≤ 1000) (w : World) (hv : KR w v K) (hk : kind ≠ 1 ∧ kind ≠ 2 ∧ kind ≠ 3 ∧ kind ≠ 4 ∧ kind ≠ 5 ∧ kind ≠ 6 ∧ kind ≠ 7 ∧ kind ≠ 8 ∧ kind ≠ 9) :
    Calls Try.prog 7 #[v, .agg #[.int .i64 kind, .int .i64 on, .int .u64 key], .bool sp] w (AnsP v K kind key sp w) := by
  have HH := hid (aq_start w kind on key)
  have HR := hid hv
  have HV := hid hv.lies
  obtain ⟨a, c, rfl, _⟩ := hv.lies
  clear hv
  obtain ⟨i, hi⟩ := pl_ex K key
  have HI := hid hi
  clear hi
  have hb1 : (kind == 1) = false := by simpa using hk.1
  have hb2 : (kind == 2) = false := by simpa using hk.2.1
  have hb3 : (kind == 3) = false := by simpa using hk.2.2.1
  have hb4 : (kind == 4) = false := by simpa using hk.2.2.2.1
  have hb5 : (kind == 5) = false := by simpa using hk.2.2.2.2.1
  have hb6 : (kind == 6) = false := by simpa using hk.2.2.2.2.2.1
  have hb7 : (kind == 7) = false := by simpa using hk.2.2.2.2.2.2.1
  have hb8 : (kind == 8) = false := by simpa using hk.2.2.2.2.2.2.2.1
  have hb9 : (kind == 9) = false := by simpa using hk.2.2.2.2.2.2.2.2
  have HF := hid (ans_fin w kind on key 0 0 false (.slice none 0 0))
  have HN := hid hk
  go_enter Try.func7, Try.ntmps7
  go_wp2_with fail
  refine bodyPost_ret (ans_ret rfl _ _ (w.heap.size + 1) 0 0 false (.slice none 0 0) HF.out.1 rfl) rfl ?_
  exact ansP_of (R := ⟨0, false, [], 0⟩) HI.out (by obtain ⟨k1, k2, k3, k4, k5, k6, k7, k8, k9⟩ := HN.out; unfold ansR; rw [if_neg k1, if_neg k2, if_neg k3, if_neg k4, if_neg k5, if_neg k6, if_neg k7, if_neg k8]) (by obtain ⟨k1, k2, k3, k4, k5, k6, k7, k8, k9⟩ := HN.out; unfold ansK; rw [if_neg k1, if_neg k2, if_neg (by rintro (q | q); exact k8 q; exact k9 q)]) (lies_nil _) (HV.out.keeps HF.out.2 (fun _ _ _ _ f => f)) (near_nil _ _) (near_self _ _ _ _) HF.out.2
end Go.Proofs.Ytmnbilhblkobdaa


/- The document's reply to a step, kind by kind (layer 21). No statement of the seat is proved here. -/
namespace Go.Proofs.Ytmnbilhblkobdaa
open Go.RowKit

set_option maxRecDepth 100000 in
set_option maxHeartbeats 4000000 in
theorem answer_1 (v : Value) (K : List Int) (on key : Int) (sp : Bool) (hK : K.length ≤ 1000) (w : World) (hv : KR w v K) :
    Calls Try.prog 7 #[v, .agg #[.int .i64 1, .int .i64 on, .int .u64 key], .bool sp] w (AnsP v K 1 key sp w) := by
  have HH := hid (aq_start w 1 on key)
  have HR := hid hv
  have HV := hid hv.lies
  obtain ⟨a, c, rfl, _⟩ := hv.lies
  clear hv
  go_enter Try.func7, Try.ntmps7
  go_wp2_with fail
  refine (rhas_any _ K key (by omega) _ (HV.out.keeps HH.out.k (fun _ _ _ _ f => f))).mono ?_
  rintro e_ w1 ⟨i, hi, rfl, hw_⟩
  replace HH : Hid (Aq w w1 1 on key 0 false (.slice none 0 0) 0) := by rw [hw_]; exact HH
  clear hw_
  have HI := hid hi
  clear hi
  have HB : Hid (hasI K key i = (decide (i < K.length) && (oat K i == key))) := hid rfl
  generalize (decide (i < K.length) && (oat K i == key)) = hb at HB ⊢
  cases hb with
  | true =>
    have HY : Hid (i < K.length ∧ oat K i = key) := by
      have q := HB.out
      unfold hasI at q
      exact hid (by simpa using q)
    have hq := HH.out.a9
    have q0 := hq.c0
    have q1 := hq.c1
    have q2 := hq.c2
    have q3 := hq.c3
    have qf0 := hq.fr 0
    have qf1 := hq.fr 1
    have qf2 := hq.fr 2
    have qf3 := hq.fr 3
    clear hq
    have hbx := HH.out.bx
    have b0 : w1.cell? ⟨w.heap.size, 0, none⟩ = some (.int .i64 1) := by rw [cell_of_block hbx]; rfl
    have b1 : w1.cell? ⟨w.heap.size, 1, none⟩ = some (.int .i64 on) := by rw [cell_of_block hbx]; rfl
    have b2 : w1.cell? ⟨w.heap.size, 2, none⟩ = some (.int .u64 key) := by rw [cell_of_block hbx]; rfl
    clear hbx
    go_wp2_with fail
    replace HH := hid (HH.out.own (HH.out.a9.set1 false))
    generalize w1.setCell ⟨w.heap.size + 2, 1, none⟩ (.bool false) = Y at HH ⊢
    clear q0 q1 q2 q3 qf0 qf1 qf2 qf3 b0 b1 b2
    replace HH := hid (HH.out.new (Keeps.refl _ Y).drew)
    have hS0 := s10_of HH.out
    refine wp_held_end (S := fun W : World => S10 W w.heap.size (w.heap.size + 2) key 0 false (.slice none 0 0) 0) 7 rfl hmxp ?_
    simp only [Array.replicate_succ, Array.replicate_zero, List.push_toArray, List.nil_append, List.cons_append]
    refine held_take (i := 0) (v := (.agg #[.int .u64 0, .bool false, .slice none 0 0, .int .i64 0])) 30 rfl rfl (by kernel_rfl) (by kernel_rfl) (by kernel_rfl) rfl (fun w' hw' => by obtain ⟨q0, q1, q2, q3, q4⟩ := hw'; go_simp) hS0 ?_
    simp only [Act.put, List.setIfInBounds_toArray, List.set_cons_zero, List.set_cons_succ]
    refine held_take (i := 1) (v := (.slice a K.length c)) 31 rfl rfl (by kernel_rfl) (by kernel_rfl) (by kernel_rfl) rfl (fun w' hw' => by obtain ⟨q0, q1, q2, q3, q4⟩ := hw'; go_simp) hS0 ?_
    simp only [Act.put, List.setIfInBounds_toArray, List.set_cons_zero, List.set_cons_succ]
    refine held_take (i := 2) (v := (.pointer (some ⟨w.heap.size, 2, none⟩))) 32 rfl rfl (by kernel_rfl) (by kernel_rfl) (by kernel_rfl) rfl (fun w' hw' => by obtain ⟨q0, q1, q2, q3, q4⟩ := hw'; go_simp) hS0 ?_
    simp only [Act.put, List.setIfInBounds_toArray, List.set_cons_zero, List.set_cons_succ]
    refine held_take (i := 3) (v := (.int .u64 key)) 33 rfl rfl (by kernel_rfl) (by kernel_rfl) (by kernel_rfl) rfl (fun w' hw' => by obtain ⟨q0, q1, q2, q3, q4⟩ := hw'; go_simp) hS0 ?_
    simp only [Act.put, List.setIfInBounds_toArray, List.set_cons_zero, List.set_cons_succ]
    refine held_call (i := 4) (f := 20) (args := #[.slice a K.length c, .int .u64 key]) 34 (by kernel_rfl) rfl rfl rfl (by go_simp) ?_
    refine (rinsert_any _ K key hK _ (HR.out.keeps HH.out.k)).mono ?_
    rintro e_ w2 ⟨i2, v2, hi2, rfl, r2, k2⟩
    obtain rfl := hi2.uniq HI.out
    rw [if_pos HY.out] at r2
    subst r2
    replace HH := hid (HH.out.new k2)
    have hS1 := s10_of HH.out
    clear k2 hi2
    refine ⟨_, rfl, hS1, ?_⟩
    simp only [Act.put, List.setIfInBounds_toArray, List.set_cons_zero, List.set_cons_succ]
    have hf := HH.out.fin 0 0 false (.slice none 0 0)
    obtain ⟨x8, h8, v8, e8, ha8⟩ := HH.out.a8
    have hp := ha8
    have p0 := hp.c0
    have p1 := hp.c1
    have p2 := hp.c2
    have p3 := hp.c3
    have pf0 := hp.fr 0
    have pf1 := hp.fr 1
    have pf2 := hp.fr 2
    have pf3 := hp.fr 3
    clear hp ha8
    have hS2 := hS1.keeps hf.2.2 (by omega) (by omega)
    have HF := hid hf
    clear hf
    refine held_none (i := 5) (w' := ((((w2.setCell ⟨w.heap.size + 1, 0, none⟩ (.int .u64 0)).setCell ⟨w.heap.size + 1, 1, none⟩ (.bool false)).setCell ⟨w.heap.size + 1, 2, none⟩ (.slice none 0 0)).setCell ⟨w.heap.size + 1, 3, none⟩ (.int .i64 0))) (by kernel_rfl) rfl rfl rfl (by go_simp) hS2 ?_
    simp only [List.setIfInBounds_toArray, List.set_cons_zero, List.set_cons_succ]
    refine held_val (i := 6) (v := (.slice a K.length c)) (w' := ((((w2.setCell ⟨w.heap.size + 1, 0, none⟩ (.int .u64 0)).setCell ⟨w.heap.size + 1, 1, none⟩ (.bool false)).setCell ⟨w.heap.size + 1, 2, none⟩ (.slice none 0 0)).setCell ⟨w.heap.size + 1, 3, none⟩ (.int .i64 0))) (some 7) (by kernel_rfl) rfl rfl rfl (by go_simp) hS2 ?_
    simp only [Act.put, List.setIfInBounds_toArray, List.set_cons_zero, List.set_cons_succ]
    refine held_end (by kernel_rfl) ?_ _
    clear hS0 hS1 hS2
    go_wp2_with fail
    refine bodyPost_ret (ans_ret rfl _ _ (w.heap.size + 1) 0 0 false (.slice none 0 0) HF.out.1 rfl) rfl ?_
    exact ansP_of (R := ⟨0, false, [], 0⟩) HI.out (by unfold ansR; rw [if_pos rfl, if_pos HB.out]) (by unfold ansK; rw [if_pos rfl, if_pos HB.out]) (lies_nil _) (HV.out.keeps HF.out.2.1 (fun _ _ _ _ f => f)) (near_nil _ _) (near_self _ _ _ _) HF.out.2.1
  | false =>
    cases sp with
    | true =>
      have HY : Hid (¬ (i < K.length ∧ oat K i = key)) := by
        have q := HB.out
        unfold hasI at q
        exact hid (by simpa using q)
      have hq := HH.out.a9
      have q0 := hq.c0
      have q1 := hq.c1
      have q2 := hq.c2
      have q3 := hq.c3
      have qf0 := hq.fr 0
      have qf1 := hq.fr 1
      have qf2 := hq.fr 2
      have qf3 := hq.fr 3
      clear hq
      have hbx := HH.out.bx
      have b0 : w1.cell? ⟨w.heap.size, 0, none⟩ = some (.int .i64 1) := by rw [cell_of_block hbx]; rfl
      have b1 : w1.cell? ⟨w.heap.size, 1, none⟩ = some (.int .i64 on) := by rw [cell_of_block hbx]; rfl
      have b2 : w1.cell? ⟨w.heap.size, 2, none⟩ = some (.int .u64 key) := by rw [cell_of_block hbx]; rfl
      clear hbx
      go_wp2_with fail
      replace HH := hid (HH.out.own (HH.out.a9.set1 true))
      generalize w1.setCell ⟨w.heap.size + 2, 1, none⟩ (.bool true) = Y at HH ⊢
      clear q0 q1 q2 q3 qf0 qf1 qf2 qf3 b0 b1 b2
      replace HH := hid (HH.out.new (Keeps.refl _ Y).drew)
      have hS0 := s10_of HH.out
      refine wp_held_end (S := fun W : World => S10 W w.heap.size (w.heap.size + 2) key 0 true (.slice none 0 0) 0) 7 rfl hmxp ?_
      simp only [Array.replicate_succ, Array.replicate_zero, List.push_toArray, List.nil_append, List.cons_append]
      refine held_take (i := 0) (v := (.agg #[.int .u64 0, .bool true, .slice none 0 0, .int .i64 0])) 30 rfl rfl (by kernel_rfl) (by kernel_rfl) (by kernel_rfl) rfl (fun w' hw' => by obtain ⟨q0, q1, q2, q3, q4⟩ := hw'; go_simp) hS0 ?_
      simp only [Act.put, List.setIfInBounds_toArray, List.set_cons_zero, List.set_cons_succ]
      refine held_take (i := 1) (v := (.slice a K.length c)) 31 rfl rfl (by kernel_rfl) (by kernel_rfl) (by kernel_rfl) rfl (fun w' hw' => by obtain ⟨q0, q1, q2, q3, q4⟩ := hw'; go_simp) hS0 ?_
      simp only [Act.put, List.setIfInBounds_toArray, List.set_cons_zero, List.set_cons_succ]
      refine held_take (i := 2) (v := (.pointer (some ⟨w.heap.size, 2, none⟩))) 32 rfl rfl (by kernel_rfl) (by kernel_rfl) (by kernel_rfl) rfl (fun w' hw' => by obtain ⟨q0, q1, q2, q3, q4⟩ := hw'; go_simp) hS0 ?_
      simp only [Act.put, List.setIfInBounds_toArray, List.set_cons_zero, List.set_cons_succ]
      refine held_take (i := 3) (v := (.int .u64 key)) 33 rfl rfl (by kernel_rfl) (by kernel_rfl) (by kernel_rfl) rfl (fun w' hw' => by obtain ⟨q0, q1, q2, q3, q4⟩ := hw'; go_simp) hS0 ?_
      simp only [Act.put, List.setIfInBounds_toArray, List.set_cons_zero, List.set_cons_succ]
      refine held_call (i := 4) (f := 20) (args := #[.slice a K.length c, .int .u64 key]) 34 (by kernel_rfl) rfl rfl rfl (by go_simp) ?_
      refine (rinsert_any _ K key hK _ (HR.out.keeps HH.out.k)).mono ?_
      rintro e_ w2 ⟨i2, v2, hi2, rfl, r2, k2⟩
      obtain rfl := hi2.uniq HI.out
      rw [if_neg HY.out] at r2
      obtain ⟨a2, c2, rfl⟩ := r2.form
      have HZ : Hid (w.heap.size + 3 ≤ Y.drew.heap.size) := hid HH.out.sz
      have H2 := hid r2
      replace HH := hid (HH.out.new k2)
      have hS1 := s10_of HH.out
      clear k2 r2 hi2
      refine ⟨_, rfl, hS1, ?_⟩
      simp only [Act.put, List.setIfInBounds_toArray, List.set_cons_zero, List.set_cons_succ]
      have hf := HH.out.fin 0 0 true (.slice none 0 0)
      obtain ⟨x8, h8, v8, e8, ha8⟩ := HH.out.a8
      have hp := ha8
      have p0 := hp.c0
      have p1 := hp.c1
      have p2 := hp.c2
      have p3 := hp.c3
      have pf0 := hp.fr 0
      have pf1 := hp.fr 1
      have pf2 := hp.fr 2
      have pf3 := hp.fr 3
      clear hp ha8
      have hS2 := hS1.keeps hf.2.2 (by omega) (by omega)
      have HF := hid hf
      clear hf
      refine held_none (i := 5) (w' := ((((w2.setCell ⟨w.heap.size + 1, 0, none⟩ (.int .u64 0)).setCell ⟨w.heap.size + 1, 1, none⟩ (.bool true)).setCell ⟨w.heap.size + 1, 2, none⟩ (.slice none 0 0)).setCell ⟨w.heap.size + 1, 3, none⟩ (.int .i64 0))) (by kernel_rfl) rfl rfl rfl (by go_simp) hS2 ?_
      simp only [List.setIfInBounds_toArray, List.set_cons_zero, List.set_cons_succ]
      refine held_val (i := 6) (v := (.slice a2 (K.take i2 ++ [key] ++ K.drop i2).length c2)) (w' := ((((w2.setCell ⟨w.heap.size + 1, 0, none⟩ (.int .u64 0)).setCell ⟨w.heap.size + 1, 1, none⟩ (.bool true)).setCell ⟨w.heap.size + 1, 2, none⟩ (.slice none 0 0)).setCell ⟨w.heap.size + 1, 3, none⟩ (.int .i64 0))) (some 7) (by kernel_rfl) rfl rfl rfl (by go_simp) hS2 ?_
      simp only [Act.put, List.setIfInBounds_toArray, List.set_cons_zero, List.set_cons_succ]
      refine held_end (by kernel_rfl) ?_ _
      clear hS0 hS1 hS2
      go_wp2_with fail
      refine bodyPost_ret (ans_ret rfl _ _ (w.heap.size + 1) 0 0 true (.slice none 0 0) HF.out.1 rfl) rfl ?_
      exact ansP_of (R := ⟨0, true, [], 0⟩) HI.out (by unfold ansR; rw [if_pos rfl, if_neg (by rw [HB.out]; decide), if_pos rfl]) (by unfold ansK; rw [if_pos rfl, if_neg (by rw [HB.out]; decide), if_pos rfl]) (lies_nil _) ((H2.out.keeps HF.out.2.2 (fun g q => by have := HZ.out; omega)).lies) (near_nil _ _) (H2.out.near (by have := HZ.out; omega)) HF.out.2.1
    | false =>
      have hq := HH.out.a9
      have q0 := hq.c0
      have q1 := hq.c1
      have q2 := hq.c2
      have q3 := hq.c3
      have qf0 := hq.fr 0
      have qf1 := hq.fr 1
      have qf2 := hq.fr 2
      have qf3 := hq.fr 3
      clear hq
      obtain ⟨x8, h8, v8, e8, ha8⟩ := HH.out.a8
      have hp := ha8
      have p0 := hp.c0
      have p1 := hp.c1
      have p2 := hp.c2
      have p3 := hp.c3
      have pf0 := hp.fr 0
      have pf1 := hp.fr 1
      have pf2 := hp.fr 2
      have pf3 := hp.fr 3
      clear hp ha8
      go_wp2_with fail
      have hd := (HH.out.own (HH.out.a9.set3 9))
      have hf := hd.fin 0 9 false (.slice none 0 0)
      refine bodyPost_ret (ans_ret rfl _ _ (w.heap.size + 1) 0 9 false (.slice none 0 0) hf.1 rfl) rfl ?_
      exact ansP_of (R := ⟨0, false, [], 9⟩) HI.out (by unfold ansR; rw [if_pos rfl, if_neg (by rw [HB.out]; decide), if_neg (by decide)]) (by unfold ansK; rw [if_pos rfl, if_neg (by rw [HB.out]; decide), if_neg (by decide)]) (lies_nil _) (HV.out.keeps hf.2.1 (fun _ _ _ _ f => f)) (near_nil _ _) (near_self _ _ _ _) hf.2.1
end Go.Proofs.Ytmnbilhblkobdaa


/- The document's reply to a step, kind by kind (layer 21). No statement of the seat is proved here. -/
namespace Go.Proofs.Ytmnbilhblkobdaa
open Go.RowKit

set_option maxRecDepth 100000 in
set_option maxHeartbeats 4000000 in
theorem answer_2 (v : Value) (K : List Int) (on key : Int) (sp : Bool) (hK : K.length ≤ 1000) (w : World) (hv : KR w v K) :
    Calls Try.prog 7 #[v, .agg #[.int .i64 2, .int .i64 on, .int .u64 key], .bool sp] w (AnsP v K 2 key sp w) := by
  have HH := hid (aq_start w 2 on key)
  have HR := hid hv
  have HV := hid hv.lies
  obtain ⟨a, c, rfl, _⟩ := hv.lies
  clear hv
  go_enter Try.func7, Try.ntmps7
  go_wp2_with fail
  refine (rhas_any _ K key (by omega) _ (HV.out.keeps HH.out.k (fun _ _ _ _ f => f))).mono ?_
  rintro e_ w1 ⟨i, hi, rfl, hw_⟩
  replace HH : Hid (Aq w w1 2 on key 0 false (.slice none 0 0) 0) := by rw [hw_]; exact HH
  clear hw_
  have HI := hid hi
  clear hi
  have HB : Hid (hasI K key i = (decide (i < K.length) && (oat K i == key))) := hid rfl
  generalize (decide (i < K.length) && (oat K i == key)) = hb at HB ⊢
  have hq := HH.out.a9
  have q0 := hq.c0
  have q1 := hq.c1
  have q2 := hq.c2
  have q3 := hq.c3
  have qf0 := hq.fr 0
  have qf1 := hq.fr 1
  have qf2 := hq.fr 2
  have qf3 := hq.fr 3
  clear hq
  have hbx := HH.out.bx
  have b0 : w1.cell? ⟨w.heap.size, 0, none⟩ = some (.int .i64 2) := by rw [cell_of_block hbx]; rfl
  have b1 : w1.cell? ⟨w.heap.size, 1, none⟩ = some (.int .i64 on) := by rw [cell_of_block hbx]; rfl
  have b2 : w1.cell? ⟨w.heap.size, 2, none⟩ = some (.int .u64 key) := by rw [cell_of_block hbx]; rfl
  clear hbx
  go_wp2_with fail
  replace HH := hid (HH.out.own (HH.out.a9.set1 hb))
  generalize w1.setCell ⟨w.heap.size + 2, 1, none⟩ (.bool hb) = Y at HH ⊢
  clear q0 q1 q2 q3 qf0 qf1 qf2 qf3 b0 b1 b2
  replace HH := hid (HH.out.new (Keeps.refl _ Y).drew)
  have hS0 := s10_of HH.out
  refine wp_held_end (S := fun W : World => S10 W w.heap.size (w.heap.size + 2) key 0 hb (.slice none 0 0) 0) 7 rfl hmxp ?_
  simp only [Array.replicate_succ, Array.replicate_zero, List.push_toArray, List.nil_append, List.cons_append]
  refine held_take (i := 0) (v := (.agg #[.int .u64 0, .bool hb, .slice none 0 0, .int .i64 0])) 42 rfl rfl (by kernel_rfl) (by kernel_rfl) (by kernel_rfl) rfl (fun w' hw' => by obtain ⟨q0, q1, q2, q3, q4⟩ := hw'; go_simp) hS0 ?_
  simp only [Act.put, List.setIfInBounds_toArray, List.set_cons_zero, List.set_cons_succ]
  refine held_take (i := 1) (v := (.slice a K.length c)) 43 rfl rfl (by kernel_rfl) (by kernel_rfl) (by kernel_rfl) rfl (fun w' hw' => by obtain ⟨q0, q1, q2, q3, q4⟩ := hw'; go_simp) hS0 ?_
  simp only [Act.put, List.setIfInBounds_toArray, List.set_cons_zero, List.set_cons_succ]
  refine held_take (i := 2) (v := (.pointer (some ⟨w.heap.size, 2, none⟩))) 44 rfl rfl (by kernel_rfl) (by kernel_rfl) (by kernel_rfl) rfl (fun w' hw' => by obtain ⟨q0, q1, q2, q3, q4⟩ := hw'; go_simp) hS0 ?_
  simp only [Act.put, List.setIfInBounds_toArray, List.set_cons_zero, List.set_cons_succ]
  refine held_take (i := 3) (v := (.int .u64 key)) 45 rfl rfl (by kernel_rfl) (by kernel_rfl) (by kernel_rfl) rfl (fun w' hw' => by obtain ⟨q0, q1, q2, q3, q4⟩ := hw'; go_simp) hS0 ?_
  simp only [Act.put, List.setIfInBounds_toArray, List.set_cons_zero, List.set_cons_succ]
  refine held_call (i := 4) (f := 21) (args := #[.slice a K.length c, .int .u64 key]) 46 (by kernel_rfl) rfl rfl rfl (by go_simp) ?_
  refine (rremove_any _ K key (by omega) _ (HV.out.keeps HH.out.k (fun _ _ _ _ f => f))).mono ?_
  rintro e_ w2 ⟨v2, rfl, r2, k2⟩
  obtain ⟨a2, c2, rfl⟩ := r2.form
  have HZ : Hid (w.heap.size + 3 ≤ Y.drew.heap.size) := hid HH.out.sz
  have H2 := hid r2
  replace HH := hid (HH.out.new k2)
  have hS1 := s10_of HH.out
  clear k2 r2
  refine ⟨_, rfl, hS1, ?_⟩
  simp only [Act.put, List.setIfInBounds_toArray, List.set_cons_zero, List.set_cons_succ]
  have hf := HH.out.fin 0 0 hb (.slice none 0 0)
  obtain ⟨x8, h8, v8, e8, ha8⟩ := HH.out.a8
  have hp := ha8
  have p0 := hp.c0
  have p1 := hp.c1
  have p2 := hp.c2
  have p3 := hp.c3
  have pf0 := hp.fr 0
  have pf1 := hp.fr 1
  have pf2 := hp.fr 2
  have pf3 := hp.fr 3
  clear hp ha8
  have hS2 := hS1.keeps hf.2.2 (by omega) (by omega)
  have HF := hid hf
  clear hf
  refine held_none (i := 5) (w' := ((((w2.setCell ⟨w.heap.size + 1, 0, none⟩ (.int .u64 0)).setCell ⟨w.heap.size + 1, 1, none⟩ (.bool hb)).setCell ⟨w.heap.size + 1, 2, none⟩ (.slice none 0 0)).setCell ⟨w.heap.size + 1, 3, none⟩ (.int .i64 0))) (by kernel_rfl) rfl rfl rfl (by go_simp) hS2 ?_
  simp only [List.setIfInBounds_toArray, List.set_cons_zero, List.set_cons_succ]
  refine held_val (i := 6) (v := (.slice a2 (K.filter (fun x => x != key)).length c2)) (w' := ((((w2.setCell ⟨w.heap.size + 1, 0, none⟩ (.int .u64 0)).setCell ⟨w.heap.size + 1, 1, none⟩ (.bool hb)).setCell ⟨w.heap.size + 1, 2, none⟩ (.slice none 0 0)).setCell ⟨w.heap.size + 1, 3, none⟩ (.int .i64 0))) (some 7) (by kernel_rfl) rfl rfl rfl (by go_simp) hS2 ?_
  simp only [Act.put, List.setIfInBounds_toArray, List.set_cons_zero, List.set_cons_succ]
  refine held_end (by kernel_rfl) ?_ _
  clear hS0 hS1 hS2
  go_wp2_with fail
  refine bodyPost_ret (ans_ret rfl _ _ (w.heap.size + 1) 0 0 hb (.slice none 0 0) HF.out.1 rfl) rfl ?_
  exact ansP_of (R := ⟨0, hb, [], 0⟩) HI.out (by unfold ansR; rw [if_neg (by decide), if_pos rfl, HB.out]) rfl (lies_nil _) ((H2.out.keeps HF.out.2.2 (fun g q => by have := HZ.out; omega)).lies) (near_nil _ _) (H2.out.near (by have := HZ.out; omega)) HF.out.2.1
end Go.Proofs.Ytmnbilhblkobdaa


/- The document's reply to a step, kind by kind (layer 21). No statement of the seat is proved here. -/
namespace Go.Proofs.Ytmnbilhblkobdaa
open Go.RowKit

set_option maxRecDepth 100000 in
set_option maxHeartbeats 4000000 in
theorem answer_3 (v : Value) (K : List Int) (on key : Int) (sp : Bool) (hK : K.length ≤ 1000) (w : World) (hv : KR w v K) :
    Calls Try.prog 7 #[v, .agg #[.int .i64 3, .int .i64 on, .int .u64 key], .bool sp] w (AnsP v K 3 key sp w) := by
  have HH := hid (aq_start w 3 on key)
  have HR := hid hv
  have HV := hid hv.lies
  obtain ⟨a, c, rfl, _⟩ := hv.lies
  clear hv
  go_enter Try.func7, Try.ntmps7
  go_wp2_with fail
  refine (rhas_any _ K key (by omega) _ (HV.out.keeps HH.out.k (fun _ _ _ _ f => f))).mono ?_
  rintro e_ w1 ⟨i, hi, rfl, hw_⟩
  replace HH : Hid (Aq w w1 3 on key 0 false (.slice none 0 0) 0) := by rw [hw_]; exact HH
  clear hw_
  have HI := hid hi
  clear hi
  have HB : Hid (hasI K key i = (decide (i < K.length) && (oat K i == key))) := hid rfl
  generalize (decide (i < K.length) && (oat K i == key)) = hb at HB ⊢
  have hq := HH.out.a9
  have q0 := hq.c0
  have q1 := hq.c1
  have q2 := hq.c2
  have q3 := hq.c3
  have qf0 := hq.fr 0
  have qf1 := hq.fr 1
  have qf2 := hq.fr 2
  have qf3 := hq.fr 3
  clear hq
  obtain ⟨x8, h8, v8, e8, ha8⟩ := HH.out.a8
  have hp := ha8
  have p0 := hp.c0
  have p1 := hp.c1
  have p2 := hp.c2
  have p3 := hp.c3
  have pf0 := hp.fr 0
  have pf1 := hp.fr 1
  have pf2 := hp.fr 2
  have pf3 := hp.fr 3
  clear hp ha8
  go_wp2_with fail
  have hd := (HH.out.own (HH.out.a9.set1 hb))
  have hf := hd.fin 0 0 hb (.slice none 0 0)
  refine bodyPost_ret (ans_ret rfl _ _ (w.heap.size + 1) 0 0 hb (.slice none 0 0) hf.1 rfl) rfl ?_
  exact ansP_of (R := ⟨0, hb, [], 0⟩) HI.out (by unfold ansR; rw [if_neg (by decide), if_neg (by decide), if_pos rfl, HB.out]) rfl (lies_nil _) (HV.out.keeps hf.2.1 (fun _ _ _ _ f => f)) (near_nil _ _) (near_self _ _ _ _) hf.2.1
end Go.Proofs.Ytmnbilhblkobdaa


/- The document's reply to a step, kind by kind (layer 21). No statement of the seat is proved here. -/
namespace Go.Proofs.Ytmnbilhblkobdaa
open Go.RowKit

set_option maxRecDepth 100000 in
set_option maxHeartbeats 4000000 in
theorem answer_4 (v : Value) (K : List Int) (on key : Int) (sp : Bool) (hK : K.length ≤ 1000) (w : World) (hv : KR w v K) :
    Calls Try.prog 7 #[v, .agg #[.int .i64 4, .int .i64 on, .int .u64 key], .bool sp] w (AnsP v K 4 key sp w) := by
  have HH := hid (aq_start w 4 on key)
  have HR := hid hv
  have HV := hid hv.lies
  obtain ⟨a, c, rfl, _⟩ := hv.lies
  clear hv
  obtain ⟨i, hi⟩ := pl_ex K key
  have HI := hid hi
  clear hi
  have hcv : IntKind.u64.wrap (K.length : Int) = (K.length : Int) := by rw [IntKind.wrap_u64]; omega
  have HF := hid (ans_fin w 4 on key (K.length : Int) 0 false (.slice none 0 0))
  go_enter Try.func7, Try.ntmps7
  go_wp2_with fail
  refine bodyPost_ret (ans_ret rfl _ _ (w.heap.size + 1) (K.length : Int) 0 false (.slice none 0 0) HF.out.1 rfl) rfl ?_
  exact ansP_of (R := ⟨(K.length : Int), false, [], 0⟩) HI.out (by unfold ansR; rw [if_neg (by decide), if_neg (by decide), if_neg (by decide), if_pos rfl]) (rfl) (lies_nil _) (HV.out.keeps HF.out.2 (fun _ _ _ _ f => f)) (near_nil _ _) (near_self _ _ _ _) HF.out.2
end Go.Proofs.Ytmnbilhblkobdaa


/- The document's reply to a step, kind by kind (layer 21). No statement of the seat is proved here. -/
namespace Go.Proofs.Ytmnbilhblkobdaa
open Go.RowKit

set_option maxRecDepth 100000 in
set_option maxHeartbeats 4000000 in
theorem answer_5 (v : Value) (K : List Int) (on key : Int) (sp : Bool) (hK : K.length ≤ 1000) (w : World) (hv : KR w v K) :
    Calls Try.prog 7 #[v, .agg #[.int .i64 5, .int .i64 on, .int .u64 key], .bool sp] w (AnsP v K 5 key sp w) := by
  have HH := hid (aq_start w 5 on key)
  have HR := hid hv
  have HV := hid hv.lies
  obtain ⟨a, c, rfl, _⟩ := hv.lies
  clear hv
  go_enter Try.func7, Try.ntmps7
  go_wp2_with fail
  refine (rabove_any _ K key (by omega) _ (HV.out.keeps HH.out.k (fun _ _ _ _ f => f))).mono ?_
  rintro e_ w1 ⟨rfl, hw_⟩
  replace HH : Hid (Aq w w1 5 on key 0 false (.slice none 0 0) 0) := by rw [hw_]; exact HH
  clear hw_
  obtain ⟨i, hi⟩ := pl_ex K key
  have HI := hid hi
  clear hi
  have HB : Hid (abvN K key = ((abvN K key).1, (abvN K key).2)) := hid rfl
  generalize (abvN K key).1 = x at HB ⊢
  generalize (abvN K key).2 = hb at HB ⊢
  have hq := HH.out.a9
  have q0 := hq.c0
  have q1 := hq.c1
  have q2 := hq.c2
  have q3 := hq.c3
  have qf0 := hq.fr 0
  have qf1 := hq.fr 1
  have qf2 := hq.fr 2
  have qf3 := hq.fr 3
  clear hq
  obtain ⟨x8, h8, v8, e8, ha8⟩ := HH.out.a8
  have hp := ha8
  have p0 := hp.c0
  have p1 := hp.c1
  have p2 := hp.c2
  have p3 := hp.c3
  have pf0 := hp.fr 0
  have pf1 := hp.fr 1
  have pf2 := hp.fr 2
  have pf3 := hp.fr 3
  clear hp ha8
  go_wp2_with fail
  have hd := ((HH.out.own (HH.out.a9.set0 x)).own ((HH.out.a9.set0 x).set1 hb))
  have hf := hd.fin x 0 hb (.slice none 0 0)
  refine bodyPost_ret (ans_ret rfl _ _ (w.heap.size + 1) x 0 hb (.slice none 0 0) hf.1 rfl) rfl ?_
  exact ansP_of (R := ⟨x, hb, [], 0⟩) HI.out (by unfold ansR; rw [if_neg (by decide), if_neg (by decide), if_neg (by decide), if_neg (by decide), if_pos rfl, HB.out]) rfl (lies_nil _) (HV.out.keeps hf.2.1 (fun _ _ _ _ f => f)) (near_nil _ _) (near_self _ _ _ _) hf.2.1
end Go.Proofs.Ytmnbilhblkobdaa


/- The document's reply to a step, kind by kind (layer 21). No statement of the seat is proved here. -/
namespace Go.Proofs.Ytmnbilhblkobdaa
open Go.RowKit

set_option maxRecDepth 100000 in
set_option maxHeartbeats 4000000 in
theorem answer_6 (v : Value) (K : List Int) (on key : Int) (sp : Bool) (_hK : K.length ≤ 1000) (w : World) (hv : KR w v K) :
    Calls Try.prog 7 #[v, .agg #[.int .i64 6, .int .i64 on, .int .u64 key], .bool sp] w (AnsP v K 6 key sp w) := by
  have HH := hid (aq_start w 6 on key)
  have HR := hid hv
  have HV := hid hv.lies
  obtain ⟨a, c, rfl, _⟩ := hv.lies
  clear hv
  obtain ⟨i, hi⟩ := pl_ex K key
  have HI := hid hi
  clear hi
  by_cases h0 : 0 < K.length
  · skip
    have hz : (0 : Int) < (K.length : Int) := by omega
    have HF1 : Hid (firstK K = (oat K 0, true)) := by
      cases K with
      | nil => simp at h0
      | cons y K => exact hid rfl
    obtain ⟨a_, c_, hv_, hc_⟩ := HV.out.keeps HH.out.k (fun _ _ _ _ f => f)
    obtain ⟨g, off, ha_, d0⟩ := hc_ 0 h0
    rw [Nat.add_zero] at d0
    simp only [Value.slice.injEq] at hv_
    obtain ⟨rfl, _, rfl⟩ := hv_
    subst ha_
    clear hc_
    have HF := hid (ans_fin w 6 on key (oat K 0) 0 true (.slice none 0 0))
    go_enter Try.func7, Try.ntmps7
    go_wp2_with fail
    refine bodyPost_ret (ans_ret rfl _ _ (w.heap.size + 1) (oat K 0) 0 true (.slice none 0 0) HF.out.1 rfl) rfl ?_
    exact ansP_of (R := ⟨oat K 0, true, [], 0⟩) HI.out (by unfold ansR; rw [if_neg (by decide), if_neg (by decide), if_neg (by decide), if_neg (by decide), if_neg (by decide), if_pos rfl, HF1.out]) (rfl) (lies_nil _) (HV.out.keeps HF.out.2 (fun _ _ _ _ f => f)) (near_nil _ _) (near_self _ _ _ _) HF.out.2
  · skip
    have hz : ¬ (0 : Int) < (K.length : Int) := by omega
    have HF1 : Hid (firstK K = (0, false)) := by
      have : K = [] := List.length_eq_zero_iff.1 (by omega)
      rw [this]; exact hid rfl
    have HF := hid (ans_fin w 6 on key 0 0 false (.slice none 0 0))
    go_enter Try.func7, Try.ntmps7
    go_wp2_with fail
    refine bodyPost_ret (ans_ret rfl _ _ (w.heap.size + 1) 0 0 false (.slice none 0 0) HF.out.1 rfl) rfl ?_
    exact ansP_of (R := ⟨0, false, [], 0⟩) HI.out (by unfold ansR; rw [if_neg (by decide), if_neg (by decide), if_neg (by decide), if_neg (by decide), if_neg (by decide), if_pos rfl, HF1.out]) (rfl) (lies_nil _) (HV.out.keeps HF.out.2 (fun _ _ _ _ f => f)) (near_nil _ _) (near_self _ _ _ _) HF.out.2
end Go.Proofs.Ytmnbilhblkobdaa


/- The document's reply to a step, kind by kind (layer 21). No statement of the seat is proved here. -/
namespace Go.Proofs.Ytmnbilhblkobdaa
open Go.RowKit

set_option maxRecDepth 100000 in
set_option maxHeartbeats 4000000 in
theorem answer_7 (v : Value) (K : List Int) (on key : Int) (sp : Bool) (_hK : K.length ≤ 1000) (w : World) (hv : KR w v K) :
    Calls Try.prog 7 #[v, .agg #[.int .i64 7, .int .i64 on, .int .u64 key], .bool sp] w (AnsP v K 7 key sp w) := by
  have HH := hid (aq_start w 7 on key)
  have HR := hid hv
  have HV := hid hv.lies
  obtain ⟨a, c, rfl, _⟩ := hv.lies
  clear hv
  obtain ⟨i, hi⟩ := pl_ex K key
  have HI := hid hi
  clear hi
  have HF := hid (ans_fin w 7 on key 0 0 false (.slice a K.length c))
  go_enter Try.func7, Try.ntmps7
  go_wp2_with fail
  refine bodyPost_ret (ans_ret rfl _ _ (w.heap.size + 1) 0 0 false (.slice a K.length c) HF.out.1 rfl) rfl ?_
  exact ansP_of (R := ⟨0, false, K, 0⟩) HI.out (by unfold ansR; rw [if_neg (by decide), if_neg (by decide), if_neg (by decide), if_neg (by decide), if_neg (by decide), if_neg (by decide), if_pos rfl]) (rfl) (HV.out.keeps HF.out.2 (fun _ _ _ _ f => f)) (HV.out.keeps HF.out.2 (fun _ _ _ _ f => f)) (near_self _ _ _ _) (near_self _ _ _ _) HF.out.2
end Go.Proofs.Ytmnbilhblkobdaa


/- The document's reply to a step, kind by kind (layer 21). No statement of the seat is proved here. -/
namespace Go.Proofs.Ytmnbilhblkobdaa
open Go.RowKit

set_option maxRecDepth 100000 in
set_option maxHeartbeats 4000000 in
theorem answer_8 (v : Value) (K : List Int) (on key : Int) (sp : Bool) (hK : K.length ≤ 1000) (w : World) (hv : KR w v K) :
    Calls Try.prog 7 #[v, .agg #[.int .i64 8, .int .i64 on, .int .u64 key], .bool sp] w (AnsP v K 8 key sp w) := by
  have HH := hid (aq_start w 8 on key)
  have HR := hid hv
  have HV := hid hv.lies
  obtain ⟨a, c, rfl, _⟩ := hv.lies
  clear hv
  obtain ⟨i, hi⟩ := pl_ex K key
  have HI := hid hi
  clear hi
  have hcv : IntKind.u64.wrap (K.length : Int) = (K.length : Int) := by rw [IntKind.wrap_u64]; omega
  have HF := hid (ans_fin w 8 on key (K.length : Int) 0 false (.slice none 0 0))
  go_enter Try.func7, Try.ntmps7
  go_wp2_with fail
  refine bodyPost_ret (ans_ret rfl _ _ (w.heap.size + 1) (K.length : Int) 0 false (.slice none 0 0) HF.out.1 rfl) rfl ?_
  exact ansP_of (R := ⟨(K.length : Int), false, [], 0⟩) HI.out (by unfold ansR; rw [if_neg (by decide), if_neg (by decide), if_neg (by decide), if_neg (by decide), if_neg (by decide), if_neg (by decide), if_neg (by decide), if_pos rfl]) (rfl) (lies_nil _) (lies_nil _) (near_nil _ _) (near_nil _ _) HF.out.2
end Go.Proofs.Ytmnbilhblkobdaa


/- The document's reply to a step, kind by kind (layer 21). No statement of the seat is proved here. -/
namespace Go.Proofs.Ytmnbilhblkobdaa
open Go.RowKit

set_option maxRecDepth 100000 in
set_option maxHeartbeats 4000000 in
theorem answer_9 (v : Value) (K : List Int) (on key : Int) (sp : Bool) (_hK : K.length ≤ 1000) (w : World) (hv : KR w v K) :
    Calls Try.prog 7 #[v, .agg #[.int .i64 9, .int .i64 on, .int .u64 key], .bool sp] w (AnsP v K 9 key sp w) := by
  have HH := hid (aq_start w 9 on key)
  have HR := hid hv
  have HV := hid hv.lies
  obtain ⟨a, c, rfl, _⟩ := hv.lies
  clear hv
  obtain ⟨i, hi⟩ := pl_ex K key
  have HI := hid hi
  clear hi
  have HF := hid (ans_fin w 9 on key 0 0 false (.slice none 0 0))
  go_enter Try.func7, Try.ntmps7
  go_wp2_with fail
  refine bodyPost_ret (ans_ret rfl _ _ (w.heap.size + 1) 0 0 false (.slice none 0 0) HF.out.1 rfl) rfl ?_
  exact ansP_of (R := ⟨0, false, [], 0⟩) HI.out (rfl) (rfl) (lies_nil _) (lies_nil _) (near_nil _ _) (near_nil _ _) HF.out.2
end Go.Proofs.Ytmnbilhblkobdaa
