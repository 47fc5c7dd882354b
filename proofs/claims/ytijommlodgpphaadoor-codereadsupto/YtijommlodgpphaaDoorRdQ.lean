
/- The law's walk: what is read of bytes is what the document reads. No statement of the seat is proved here. -/
import Derived.Test.YtijommlodgpphaaDoorRdP
import Derived.Test.YtijommlodgpphaaDoorIrB
namespace Go.Proofs.YtijommlodgpphaaDoor
open Go.RowKit Go.Shelf

theorem readL_len : ∀ (n : Nat) (l : List UInt8), l.length = n → (readL l).1.length ≤ l.length ∧ (readL l).2.1 ≤ l.length := by
  intro n
  induction n using Nat.strongRecOn with
  | ind n ih =>
    intro l hl
    by_cases hne : l = []
    · subst hne; simp [readL_nil]
    · cases hf : firstF l with
      | none => rw [readL_none hne hf]; simp
      | some r =>
        obtain ⟨i, k⟩ := r
        obtain ⟨_, _, h1, h2⟩ := firstF_facts hf
        have := ih (l.drop k).length (by rw [List.length_drop]; omega) (l.drop k) rfl
        rw [readL_some hf]
        simp only [List.length_cons]
        rw [List.length_drop] at this
        omega
/-- What is read in full is written as the bytes. -/
theorem readL_back : ∀ (n : Nat) (l : List UInt8), l.length = n → (readL l).2.2 = true → (readL l).1.flatMap bytesL = l ∧ (∀ i ∈ (readL l).1, formedB i = true) := by
  intro n
  induction n using Nat.strongRecOn with
  | ind n ih =>
    intro l hl ht
    by_cases hne : l = []
    · subst hne; simp [readL_nil]
    · cases hf : firstF l with
      | none => rw [readL_none hne hf] at ht; cases ht
      | some r =>
        obtain ⟨i, k⟩ := r
        obtain ⟨h0, _, h1, h2⟩ := firstF_facts hf
        rw [readL_some hf] at ht ⊢
        obtain ⟨e1, e2⟩ := ih (l.drop k).length (by rw [List.length_drop]; omega) (l.drop k) rfl ht
        refine ⟨?_, ?_⟩
        · rw [List.flatMap_cons, e1, ← firstF_take hf, List.take_append_drop]
        · intro j hj
          rcases List.mem_cons.1 hj with rfl | hj
          · exact h0
          · exact e2 j hj
theorem readL_wf : ∀ (n : Nat) (l : List UInt8), l.length = n → ∀ i ∈ (readL l).1, i.wf := by
  intro n
  induction n using Nat.strongRecOn with
  | ind n ih =>
    intro l hl
    by_cases hne : l = []
    · subst hne; simp [readL_nil]
    · cases hf : firstF l with
      | none => rw [readL_none hne hf]; simp
      | some r =>
        obtain ⟨i, k⟩ := r
        obtain ⟨_, h0, h1, h2⟩ := firstF_facts hf
        rw [readL_some hf]
        intro j hj
        rcases List.mem_cons.1 hj with rfl | hj
        · exact h0
        · exact ih (l.drop k).length (by rw [List.length_drop]; omega) (l.drop k) rfl j hj
/-- Bytes that were handed in, behind a row of bytes of the call's own. -/
theorem Bts.appAt {w : World} {base : Nat} {v vs : Value} {l M : List UInt8} (h : Bts w base v l) (hM : BtAt w vs M) (hb : l.length + M.length ≤ 140737488355328) :
    ∃ v' w', (Builtin.append_ #[22, 22] 22 #[v, vs]).run Tryd.prog w = .ok v' w' ∧ Bts w' base v' (l ++ M) ∧ Grew w w' v v' := by
  obtain ⟨i0, hi, hz0, hz1, hz2⟩ := info_parts info_u8
  obtain ⟨⟨a, c, rfl, hle, hc⟩, _⟩ := hM
  by_cases hne : M = []
  · subst hne
    simp only [List.length_nil, List.append_nil]
    cases a with
    | none =>
      have hv : ∃ b n c', v = .slice b n c' ∧ n ≤ c' := by
        rcases h.own.2 with ⟨rfl, _⟩ | ⟨g, cap, cur, rfl, _, _, h3, _⟩
        · exact ⟨none, 0, 0, rfl, Nat.le_refl _⟩
        · exact ⟨_, _, cap, rfl, h3⟩
      obtain ⟨b, n, c', rfl, hle'⟩ := hv
      exact ⟨_, w, run_append_nothing w 22 22 22 5 i0 Tryd.underlying22 hi b n c' hle' _ (Src.ofNil _ (e' := 5) Tryd.underlying22 c), h, Grew.refl _ _⟩
    | some a =>
      obtain ⟨v', w', h1, h2, h3, h4⟩ := own_push (P := Tryd.prog) w base 22 22 5 _ 1 1 Tryd.underlying22 info_u8 rfl (by decide) v l.length _ h.own a 0 c [] rfl (fun j u hj => by simp at hj) (by simp) (by simpa using hb) (by decide) h.base
      refine ⟨v', w', h1, ⟨by simpa using h2, Nat.le_trans h.base h3.size⟩, ⟨(Keeps.refl _ _).grown h3 fun k hk => .inr hk, h4⟩⟩
  · obtain ⟨g, off, rfl, _⟩ := hc 0 (List.length_pos_iff.2 hne)
    obtain ⟨v', w', r1, r2, r3, r4⟩ := own_push (P := Tryd.prog) w base 22 22 5 (.int .u8 0) 1 1 Tryd.underlying22 info_u8 rfl (by decide) v l.length _ h.own ⟨g, off, none⟩ M.length c (M.map fun x => .int .u8 x.toNat) (by simp) (fun j u hj => by
      have hjl : j < M.length := by have := (List.getElem?_eq_some_iff.1 hj).1; simpa using this
      obtain ⟨g', off', e, q⟩ := hc j hjl
      cases e
      rw [addr_add, q, ← hj]
      simp [hjl]) (by simp [Value.oneCell']) (by omega) (by decide) h.base
    refine ⟨v', w', r1, ⟨by simpa using r2, Nat.le_trans h.base r3.size⟩, ⟨(Keeps.refl _ _).grown r3 fun k hk => .inr hk, r4⟩⟩
/-- The text of bytes that were handed in. -/
theorem bt_string {w : World} {v : Value} {l : List UInt8} (h : BtAt w v l) : (convert 22 9 v).run Tryd.prog w = .ok (.string ⟨l.toArray⟩) w := by
  obtain ⟨⟨a, c, rfl, hle, hc⟩, _⟩ := h
  by_cases hne : l = []
  · subst hne
    cases a with
    | none => exact Go.Lib.run_convert_nil_bytes w 22 9 5 c Tryd.underlying22 Tryd.underlying5 Tryd.underlying9
    | some a => exact run_convert_bytes_back (P := Tryd.prog) w 22 9 5 a c [] Tryd.underlying22 Tryd.underlying5 Tryd.underlying9 (fun j hj => by simp at hj)
  · obtain ⟨g, off, rfl, _⟩ := hc 0 (List.length_pos_iff.2 hne)
    refine run_convert_bytes_back (P := Tryd.prog) w 22 9 5 ⟨g, off, none⟩ c l Tryd.underlying22 Tryd.underlying5 Tryd.underlying9 (fun j hj => ?_)
    obtain ⟨g', off', e, q⟩ := hc j hj
    cases e
    rw [addr_add, q]
/-- A row of bytes with one more behind: its form, the bytes, and that one. -/
theorem Bts.head {w : World} {base : Nat} {v : Value} {l : List UInt8} {x : UInt8} (h : Bts w base v (l ++ [x])) (hb : l.length ≤ 1048576) : ∃ g c, v = .slice (some ⟨g, 0, none⟩) (l.length + 1) c ∧ l.length + 1 ≤ c ∧ BtAt w (.slice (some ⟨g, 0, none⟩) l.length c) l ∧ w.cell? ⟨g, l.length, none⟩ = some (.int .u8 x.toNat) := by
  rcases h.own.2 with ⟨rfl, q⟩ | ⟨g, cap, cur, rfl, h1, q2, h3, h4, h5, h6⟩
  · simp at q
  · have hl : (l ++ [x]).length = l.length + 1 := by simp
    rw [hl] at h3 h6
    have hget : ∀ j (hj : j < l.length + 1), w.cell? ⟨g, j, none⟩ = some (.int .u8 ((l ++ [x])[j]'(by simp; omega)).toNat) := fun j hj => by
      rw [cell_of_block q2]
      have : (cur.toList.take ((l.length + 1) * 1))[j]? = some (.int .u8 ((l ++ [x])[j]'(by simp; omega)).toNat) := by
        rw [h6, List.getElem?_map, List.getElem?_eq_getElem (by simp; omega)]
        rfl
      rw [List.getElem?_take_of_lt (by omega)] at this
      rw [← this]
      simp
    refine ⟨g, cap, by rw [hl], h3, ⟨⟨_, cap, rfl, by omega, fun j hj => ⟨g, 0, rfl, ?_⟩⟩, by omega⟩, ?_⟩
    · rw [Nat.zero_add, hget j (by omega), List.getElem_append_left hj]
    · rw [hget l.length (by omega)]
      simp

set_option maxRecDepth 100000 in
set_option maxHeartbeats 20000000 in
theorem reads_law (v : Value) (l : List UInt8) (w : World) (hw : Gl w) (h : BtAt w v l) (hl : l.length ≤ 1048576) : Calls Tryd.prog 3 #[v] w fun e w' => e = .returned (.bool true) ∧ Keeps (fun _ => False) w w' := by
  have hmx : Tryd.prog.follows .mixedOrders = true := by kernel_rfl
  have HB : Hid (∀ X, Keeps (fun _ => False) w X → BtAt X v l) := fun X k => h.keeps k
  have HGL : Hid (∀ X, Keeps (fun _ => False) w X → Gl X) := fun X k => hw.keeps k
  obtain ⟨hlen1, hlen2⟩ := readL_len _ l rfl
  have HBK : Hid ((readL l).2.2 = true → (readL l).1.flatMap bytesL = l ∧ (∀ i ∈ (readL l).1, formedB i = true)) := fun q => readL_back _ l rfl q
  have HWF : Hid (∀ i ∈ (readL l).1, i.wf) := readL_wf _ l rfl
  have RD := fun X vx (hX : BtAt X vx l) => read_any vx l X hX (by omega)
  have RR := fun X (hX : BtAt X v l) => rread_any v l X hX (by omega)
  unfold RPost at RD
  unfold DRPost at RR
  -- the copy
  have k0 := (Keeps.refl (fun _ => False) w).alloc (.cells #[] 5)
  have E0 : Bts (w.alloc (.cells #[] 5)) w.heap.size (.slice (some ⟨w.heap.size, 0, none⟩) 0 0) [] :=
    ⟨⟨rfl, .inr ⟨w.heap.size, 0, _, rfl, Nat.le_refl _, (MapKept.heap_alloc _ _).1, Nat.le_refl _, by simp [maxLen], by simp, by simp⟩⟩, by simp⟩
  obtain ⟨v1, w1, r1, b1, g1⟩ := E0.appAt (HB.out _ k0) (by simp; omega)
  have kk1 := Grew.kept g1 k0 E0
  obtain ⟨v2, w2, r2, b2, g2⟩ := b1.push 165 (by simp; omega)
  have kk2 := Grew.kept g2 kk1 b1
  rw [List.nil_append] at b2
  obtain ⟨gx, cx, rfl, hcx, BX, hmark⟩ := b2.head hl
  have HX : Hid (∀ X, Keeps (fun _ => False) w2 X → BtAt X (.slice (some ⟨gx, 0, none⟩) l.length cx) l ∧ X.cell? ⟨gx, l.length, none⟩ = some (.int .u8 165)) := fun X k => ⟨BX.keeps k, by
    have hg : gx < w2.heap.size := World.block_lt_of_cell? _ _ hmark
    have := k.block gx hg (fun f => f)
    rw [show ((165 : UInt8).toNat : Int) = 165 from rfl] at hmark
    rw [← hmark]
    simp [World.cell?, this]⟩
  have HR1 : Hid (_ = _) := r1
  have HR2 : Hid (_ = _) := r2
  have HK2 : Hid (Keeps (fun _ => False) w w2) := kk2
  have P1 := RD w2 _ BX
  have HRR : Hid (∀ X, BtAt X v l → _) := RR
  generalize hq : readL l = q at *
  obtain ⟨L, n, ok⟩ := q
  dsimp only at P1 HRR hlen1 hlen2 HBK HWF
  obtain ⟨⟨av, vc, rfl, hvc, _⟩, _⟩ := h
  clear RD RR k0 E0 r1 b1 g1 kk1 r2 b2 g2 kk2 BX hmark hw hq
  cases ok
  · go_enter Tryd.func3, Tryd.ntmps3
    go_wp2_with (first
      | (at_builtin; refine wpList_append_run rfl _ _ 22 rfl rfl rfl HR1.out ?_)
      | (at_builtin; refine wpList_append_run rfl _ _ 22 rfl rfl rfl HR2.out ?_))
    refine P1.mono ?_
    rintro e w3 ⟨⟨q1, q2⟩, k3⟩
    obtain rfl := q2 (by first | rfl | trivial)
    have hi3 : Irs w3 w2.heap.size (.slice none 0 0) [] := ⟨⟨rfl, .inl ⟨rfl, rfl⟩⟩, k3.size⟩
    have P2 := HRR.out w3 (HB.out w3 (HK2.out.trans k3))
    have HK3 : Hid (Keeps (fun _ => False) w2 w3) := k3
    have HI3 : Hid (Irs w3 w2.heap.size (.slice none 0 0) []) := hi3
    clear P1 q1 q2 HRR k3 hi3
    go_wp2_with fail
    refine P2.mono ?_
    rintro e w4 ⟨⟨q1, q2⟩, k4⟩
    obtain rfl := q2 (by first | rfl | trivial)
    have hi4 : Irs w4 w3.heap.size (.slice none 0 0) [] := ⟨⟨rfl, .inl ⟨rfl, rfl⟩⟩, k4.size⟩
    have kd4 : Keeps (fun _ => False) w4 w4.drew := (Keeps.refl _ _).drewN 1
    have IL := ((HI3.out.keeps k4 (fun _ _ f => f)).insAt (by simp) (by simp)).keeps kd4
    have IW := (hi4.insAt (by simp) (by simp)).keeps kd4
    have HIL : Hid (InsAt w4.drew (.slice none 0 0) []) := IL
    have SA := same_any _ _ [] w4.drew IL IW
    have HKD : Hid (Keeps (fun _ => False) w2 w4.drew) := (HK3.out.trans k4).trans kd4
    have HVX : Hid (∀ X, Keeps (fun _ => False) w4.drew X → BtAt X (.slice (some ⟨gx, 0, none⟩) l.length cx) l ∧ X.cell? ⟨gx, l.length, none⟩ = some (.int .u8 165)) := fun X k => HX.out X (HKD.out.trans k)
    have HVB : Hid (∀ X, Keeps (fun _ => False) w4.drew X → BtAt X (.slice av l.length vc) l) := fun X k => HB.out X ((HK2.out.trans HKD.out).trans k)
    clear P2 q1 q2 k4 hi4 IL IW HI3 HK3 HX
    go_wp2_with fail
    refine wp_held_end (S := fun X : World => Keeps (fun _ => False) w4.drew X) 43 rfl hmx ?_
    generalize w4.drew = wd at *
    simp only [Array.replicate_succ, Array.replicate_zero, List.push_toArray, List.nil_append, List.cons_append]
    have ST : (fun X : World => Keeps (fun _ => False) wd X) wd := Keeps.refl _ _
    refine held_take (i := 0) (v := .slice none 0 0) 32 rfl rfl (by kernel_rfl) (by kernel_rfl) (by kernel_rfl) rfl (fun w' hw' => by go_simp) ST ?_
    simp only [Act.put, List.setIfInBounds_toArray, List.set_cons_zero, List.set_cons_succ]
    refine held_take (i := 1) (v := .slice none 0 0) 33 rfl rfl (by kernel_rfl) (by kernel_rfl) (by kernel_rfl) rfl (fun w' hw' => by go_simp) ST ?_
    simp only [Act.put, List.setIfInBounds_toArray, List.set_cons_zero, List.set_cons_succ]
    refine held_call (i := 2) (f := 6) (args := #[.slice none 0 0, .slice none 0 0]) 34 (by kernel_rfl) rfl rfl rfl (by go_simp) ?_
    refine SA.mono ?_
    rintro e W1 ⟨rfl, kW1⟩
    replace ST : (fun X : World => Keeps (fun _ => False) wd X) W1 := ST.trans kW1
    refine ⟨_, rfl, ST, ?_⟩
    simp only [Act.put, List.setIfInBounds_toArray, List.set_cons_zero, List.set_cons_succ]
    refine held_take (i := 3) (v := .bool false) 35 rfl rfl (by kernel_rfl) (by kernel_rfl) (by kernel_rfl) rfl (fun w' hw' => by go_simp) ST ?_
    simp only [Act.put, List.setIfInBounds_toArray, List.set_cons_zero, List.set_cons_succ]
    refine held_take (i := 4) (v := .bool false) 36 rfl rfl (by kernel_rfl) (by kernel_rfl) (by kernel_rfl) rfl (fun w' hw' => by go_simp) ST ?_
    simp only [Act.put, List.setIfInBounds_toArray, List.set_cons_zero, List.set_cons_succ]
    refine held_take (i := 5) (v := .int .i64 (n : Int)) 37 rfl rfl (by kernel_rfl) (by kernel_rfl) (by kernel_rfl) rfl (fun w' hw' => by go_simp) ST ?_
    simp only [Act.put, List.setIfInBounds_toArray, List.set_cons_zero, List.set_cons_succ]
    refine held_take (i := 6) (v := .int .i64 (n : Int)) 38 rfl rfl (by kernel_rfl) (by kernel_rfl) (by kernel_rfl) rfl (fun w' hw' => by go_simp) ST ?_
    simp only [Act.put, List.setIfInBounds_toArray, List.set_cons_zero, List.set_cons_succ]
    refine held_take (i := 7) (v := .bool false) 39 rfl rfl (by kernel_rfl) (by kernel_rfl) (by kernel_rfl) rfl (fun w' hw' => by go_simp) ST ?_
    simp only [Act.put, List.setIfInBounds_toArray, List.set_cons_zero, List.set_cons_succ]
    refine held_take (i := 8) (v := .bool false) 40 rfl rfl (by kernel_rfl) (by kernel_rfl) (by kernel_rfl) rfl (fun w' hw' => by go_simp) ST ?_
    simp only [Act.put, List.setIfInBounds_toArray, List.set_cons_zero, List.set_cons_succ]
    refine held_take (i := 9) (v := .bool false) 41 rfl rfl (by kernel_rfl) (by kernel_rfl) (by kernel_rfl) rfl (fun w' hw' => by go_simp) ST ?_
    simp only [Act.put, List.setIfInBounds_toArray, List.set_cons_zero, List.set_cons_succ]
    refine held_take (i := 10) (v := .int .i64 180) 42 rfl rfl (by kernel_rfl) (by kernel_rfl) (by kernel_rfl) rfl (fun w' hw' => by go_simp) ST ?_
    simp only [Act.put, List.setIfInBounds_toArray, List.set_cons_zero, List.set_cons_succ]
    refine held_take (i := 13) (v := .bool false) 45 rfl rfl (by kernel_rfl) (by kernel_rfl) (by kernel_rfl) rfl (fun w' hw' => by go_simp) ST ?_
    simp only [Act.put, List.setIfInBounds_toArray, List.set_cons_zero, List.set_cons_succ]
    refine held_call (i := 11) (f := 7) (args := #[.int .i64 180]) 43 (by kernel_rfl) rfl rfl rfl (by go_simp) ?_
    refine (num_any _ _).mono ?_
    rintro e W' ⟨rfl, hW'⟩
    replace hW' := hW'.symm
    subst hW'
    refine ⟨_, rfl, ST, ?_⟩
    simp only [Act.put, List.setIfInBounds_toArray, List.set_cons_zero, List.set_cons_succ]
    refine held_take (i := 12) (v := .bool false) 44 rfl rfl (by kernel_rfl) (by kernel_rfl) (by kernel_rfl) rfl (fun w' hw' => by go_simp) ST ?_
    simp only [Act.put, List.setIfInBounds_toArray, List.set_cons_zero, List.set_cons_succ]
    refine held_take (i := 14) (v := .bool false) 46 rfl rfl (by kernel_rfl) (by kernel_rfl) (by kernel_rfl) rfl (fun w' hw' => by go_simp) ST ?_
    simp only [Act.put, List.setIfInBounds_toArray, List.set_cons_zero, List.set_cons_succ]
    refine held_take (i := 15) (v := .bool false) 47 rfl rfl (by kernel_rfl) (by kernel_rfl) (by kernel_rfl) rfl (fun w' hw' => by go_simp) ST ?_
    simp only [Act.put, List.setIfInBounds_toArray, List.set_cons_zero, List.set_cons_succ]
    refine held_take (i := 16) (v := .bool false) 48 rfl rfl (by kernel_rfl) (by kernel_rfl) (by kernel_rfl) rfl (fun w' hw' => by go_simp) ST ?_
    simp only [Act.put, List.setIfInBounds_toArray, List.set_cons_zero, List.set_cons_succ]
    refine held_take (i := 17) (v := .bool false) 49 rfl rfl (by kernel_rfl) (by kernel_rfl) (by kernel_rfl) rfl (fun w' hw' => by go_simp) ST ?_
    simp only [Act.put, List.setIfInBounds_toArray, List.set_cons_zero, List.set_cons_succ]
    refine held_take (i := 18) (v := .bool true) 50 rfl rfl (by kernel_rfl) (by kernel_rfl) (by kernel_rfl) rfl (fun w' hw' => by go_simp) ST ?_
    simp only [Act.put, List.setIfInBounds_toArray, List.set_cons_zero, List.set_cons_succ]
    refine held_take (i := 19) (v := .bool true) 51 rfl rfl (by kernel_rfl) (by kernel_rfl) (by kernel_rfl) rfl (fun w' hw' => by go_simp) ST ?_
    simp only [Act.put, List.setIfInBounds_toArray, List.set_cons_zero, List.set_cons_succ]
    refine held_take (i := 20) (v := .int .i64 180) 52 rfl rfl (by kernel_rfl) (by kernel_rfl) (by kernel_rfl) rfl (fun w' hw' => by go_simp) ST ?_
    simp only [Act.put, List.setIfInBounds_toArray, List.set_cons_zero, List.set_cons_succ]
    refine held_call (i := 21) (f := 7) (args := #[.int .i64 180]) 53 (by kernel_rfl) rfl rfl rfl (by go_simp) ?_
    refine (num_any _ _).mono ?_
    rintro e W' ⟨rfl, hW'⟩
    replace hW' := hW'.symm
    subst hW'
    refine ⟨_, rfl, ST, ?_⟩
    simp only [Act.put, List.setIfInBounds_toArray, List.set_cons_zero, List.set_cons_succ]
    refine held_take (i := 22) (v := .bool false) 54 rfl rfl (by kernel_rfl) (by kernel_rfl) (by kernel_rfl) rfl (fun w' hw' => by go_simp) ST ?_
    simp only [Act.put, List.setIfInBounds_toArray, List.set_cons_zero, List.set_cons_succ]
    refine held_take (i := 23) (v := .bool false) 55 rfl rfl (by kernel_rfl) (by kernel_rfl) (by kernel_rfl) rfl (fun w' hw' => by go_simp) ST ?_
    simp only [Act.put, List.setIfInBounds_toArray, List.set_cons_zero, List.set_cons_succ]
    refine held_take (i := 24) (v := .bool false) 56 rfl rfl (by kernel_rfl) (by kernel_rfl) (by kernel_rfl) rfl (fun w' hw' => by go_simp) ST ?_
    simp only [Act.put, List.setIfInBounds_toArray, List.set_cons_zero, List.set_cons_succ]
    refine held_take (i := 25) (v := .bool false) 57 rfl rfl (by kernel_rfl) (by kernel_rfl) (by kernel_rfl) rfl (fun w' hw' => by go_simp) ST ?_
    simp only [Act.put, List.setIfInBounds_toArray, List.set_cons_zero, List.set_cons_succ]
    refine held_take (i := 26) (v := .slice (some ⟨gx, 0, none⟩) (l.length + 1) cx) 58 rfl rfl (by kernel_rfl) (by kernel_rfl) (by kernel_rfl) rfl (fun w' hw' => by go_simp) ST ?_
    simp only [Act.put, List.setIfInBounds_toArray, List.set_cons_zero, List.set_cons_succ]
    refine held_take (i := 27) (v := .slice av l.length vc) 59 rfl rfl (by kernel_rfl) (by kernel_rfl) (by kernel_rfl) rfl (fun w' hw' => by go_simp) ST ?_
    simp only [Act.put, List.setIfInBounds_toArray, List.set_cons_zero, List.set_cons_succ]
    refine held_take (i := 31) (v := .slice av l.length vc) 63 rfl rfl (by kernel_rfl) (by kernel_rfl) (by kernel_rfl) rfl (fun w' hw' => by go_simp) ST ?_
    simp only [Act.put, List.setIfInBounds_toArray, List.set_cons_zero, List.set_cons_succ]
    refine held_take (i := 28) (v := .int .i64 (l.length : Int)) 60 rfl rfl (by kernel_rfl) (by kernel_rfl) (by kernel_rfl) rfl (fun w' hw' => by go_simp) ST ?_
    simp only [Act.put, List.setIfInBounds_toArray, List.set_cons_zero, List.set_cons_succ]
    refine held_take (i := 29) (v := .slice (some ⟨gx, 0, none⟩) l.length cx) 61 rfl rfl (by kernel_rfl) (by kernel_rfl) (by kernel_rfl) rfl (fun w' hw' => by go_simp; intro hh; omega) ST ?_
    simp only [Act.put, List.setIfInBounds_toArray, List.set_cons_zero, List.set_cons_succ]
    refine held_take (i := 30) (v := .string ⟨l.toArray⟩) 62 rfl rfl (by kernel_rfl) (by kernel_rfl) (by kernel_rfl) rfl (fun w' hw' => run_convert_op rfl rfl (bt_string (HVX.out w' hw').1)) ST ?_
    simp only [Act.put, List.setIfInBounds_toArray, List.set_cons_zero, List.set_cons_succ]
    refine held_take (i := 32) (v := .string ⟨l.toArray⟩) 64 rfl rfl (by kernel_rfl) (by kernel_rfl) (by kernel_rfl) rfl (fun w' hw' => run_convert_op rfl rfl (bt_string (HVB.out w' hw'))) ST ?_
    simp only [Act.put, List.setIfInBounds_toArray, List.set_cons_zero, List.set_cons_succ]
    refine held_take (i := 33) (v := .bool false) 65 rfl rfl (by kernel_rfl) (by kernel_rfl) (by kernel_rfl) rfl (fun w' hw' => by go_simp) ST ?_
    simp only [Act.put, List.setIfInBounds_toArray, List.set_cons_zero, List.set_cons_succ]
    refine held_take (i := 34) (v := .bool false) 66 rfl rfl (by kernel_rfl) (by kernel_rfl) (by kernel_rfl) rfl (fun w' hw' => by go_simp) ST ?_
    simp only [Act.put, List.setIfInBounds_toArray, List.set_cons_zero, List.set_cons_succ]
    refine held_take (i := 35) (v := .bool false) 67 rfl rfl (by kernel_rfl) (by kernel_rfl) (by kernel_rfl) rfl (fun w' hw' => by go_simp) ST ?_
    simp only [Act.put, List.setIfInBounds_toArray, List.set_cons_zero, List.set_cons_succ]
    refine held_take (i := 36) (v := .slice (some ⟨gx, 0, none⟩) (l.length + 1) cx) 68 rfl rfl (by kernel_rfl) (by kernel_rfl) (by kernel_rfl) rfl (fun w' hw' => by go_simp) ST ?_
    simp only [Act.put, List.setIfInBounds_toArray, List.set_cons_zero, List.set_cons_succ]
    refine held_take (i := 37) (v := .slice av l.length vc) 69 rfl rfl (by kernel_rfl) (by kernel_rfl) (by kernel_rfl) rfl (fun w' hw' => by go_simp) ST ?_
    simp only [Act.put, List.setIfInBounds_toArray, List.set_cons_zero, List.set_cons_succ]
    refine held_take (i := 38) (v := .int .i64 (l.length : Int)) 70 rfl rfl (by kernel_rfl) (by kernel_rfl) (by kernel_rfl) rfl (fun w' hw' => by go_simp) ST ?_
    simp only [Act.put, List.setIfInBounds_toArray, List.set_cons_zero, List.set_cons_succ]
    refine held_take (i := 39) (v := .pointer (some ⟨gx, l.length, none⟩)) 71 rfl rfl (by kernel_rfl) (by kernel_rfl) (by kernel_rfl) rfl (fun w' hw' => by go_simp; intro hh; omega) ST ?_
    simp only [Act.put, List.setIfInBounds_toArray, List.set_cons_zero, List.set_cons_succ]
    refine held_take (i := 40) (v := .int .u8 165) 72 rfl rfl (by kernel_rfl) (by kernel_rfl) (by kernel_rfl) rfl (fun w' hw' => by have hcell := (HVX.out w' hw').2; go_simp) ST ?_
    simp only [Act.put, List.setIfInBounds_toArray, List.set_cons_zero, List.set_cons_succ]
    refine held_take (i := 41) (v := .bool false) 73 rfl rfl (by kernel_rfl) (by kernel_rfl) (by kernel_rfl) rfl (fun w' hw' => by go_simp) ST ?_
    simp only [Act.put, List.setIfInBounds_toArray, List.set_cons_zero, List.set_cons_succ]
    refine held_take (i := 42) (v := .bool false) 74 rfl rfl (by kernel_rfl) (by kernel_rfl) (by kernel_rfl) rfl (fun w' hw' => by go_simp) ST ?_
    simp only [Act.put, List.setIfInBounds_toArray, List.set_cons_zero, List.set_cons_succ]
    refine held_end (by kernel_rfl) ?_ _
    have BY := bytes_any (.slice none 0 0) [] W1 (HIL.out.keeps ST)
    unfold BPost at BY
    clear SA
    go_wp2_with fail
    refine BY.mono ?_
    rintro e w6 ⟨⟨q1, q2⟩, k6⟩
    have kk6 := ST.trans k6
    clear BY
    obtain ⟨vc2, rfl, hb6⟩ := q1 (by first | rfl | trivial)
    obtain ⟨cb, cc, rfl⟩ := hb6.form
    have hW := works_any w6 (HGL.out w6 ((HK2.out.trans HKD.out).trans kk6))
    have kw := (HK2.out.trans HKD.out).trans kk6
    clear q1 q2 hb6 HBK HWF HVB HVX HIL ST k6 kk6 HKD HK2 HGL HB
    go_wp2_with fail
    refine hW.mono ?_
    rintro e w7 ⟨rfl, k7⟩
    have kk := kw.trans k7
    clear hW
    go_wp2_with fail
    go_ret
    exact ⟨rfl, kk⟩
  · go_enter Tryd.func3, Tryd.ntmps3
    go_wp2_with (first
      | (at_builtin; refine wpList_append_run rfl _ _ 22 rfl rfl rfl HR1.out ?_)
      | (at_builtin; refine wpList_append_run rfl _ _ 22 rfl rfl rfl HR2.out ?_))
    refine P1.mono ?_
    rintro e w3 ⟨⟨q1, q2⟩, k3⟩
    obtain ⟨vl, rfl, hi3⟩ := q1 (by first | rfl | trivial)
    obtain ⟨lb, lc, rfl⟩ := hi3.form
    have P2 := HRR.out w3 (HB.out w3 (HK2.out.trans k3))
    have HK3 : Hid (Keeps (fun _ => False) w2 w3) := k3
    have HI3 : Hid (Irs w3 w2.heap.size (.slice lb L.length lc) L) := hi3
    clear P1 q1 q2 HRR k3 hi3
    go_wp2_with fail
    refine P2.mono ?_
    rintro e w4 ⟨⟨q1, q2⟩, k4⟩
    obtain ⟨vw, rfl, hi4⟩ := q1 (by first | rfl | trivial)
    obtain ⟨wb, wc, rfl⟩ := hi4.form
    have kd4 : Keeps (fun _ => False) w4 w4.drew := (Keeps.refl _ _).drewN 1
    have IL := ((HI3.out.keeps k4 (fun _ _ f => f)).insAt HWF.out (by omega)).keeps kd4
    have IW := (hi4.insAt HWF.out (by omega)).keeps kd4
    have HIL : Hid (InsAt w4.drew (.slice lb L.length lc) L) := IL
    have SA := same_any _ _ L w4.drew IL IW
    have HKD : Hid (Keeps (fun _ => False) w2 w4.drew) := (HK3.out.trans k4).trans kd4
    have HVX : Hid (∀ X, Keeps (fun _ => False) w4.drew X → BtAt X (.slice (some ⟨gx, 0, none⟩) l.length cx) l ∧ X.cell? ⟨gx, l.length, none⟩ = some (.int .u8 165)) := fun X k => HX.out X (HKD.out.trans k)
    have HVB : Hid (∀ X, Keeps (fun _ => False) w4.drew X → BtAt X (.slice av l.length vc) l) := fun X k => HB.out X ((HK2.out.trans HKD.out).trans k)
    clear P2 q1 q2 k4 hi4 IL IW HI3 HK3 HX
    go_wp2_with fail
    refine wp_held_end (S := fun X : World => Keeps (fun _ => False) w4.drew X) 43 rfl hmx ?_
    generalize w4.drew = wd at *
    simp only [Array.replicate_succ, Array.replicate_zero, List.push_toArray, List.nil_append, List.cons_append]
    have ST : (fun X : World => Keeps (fun _ => False) wd X) wd := Keeps.refl _ _
    refine held_take (i := 0) (v := .slice lb L.length lc) 32 rfl rfl (by kernel_rfl) (by kernel_rfl) (by kernel_rfl) rfl (fun w' hw' => by go_simp) ST ?_
    simp only [Act.put, List.setIfInBounds_toArray, List.set_cons_zero, List.set_cons_succ]
    refine held_take (i := 1) (v := .slice wb L.length wc) 33 rfl rfl (by kernel_rfl) (by kernel_rfl) (by kernel_rfl) rfl (fun w' hw' => by go_simp) ST ?_
    simp only [Act.put, List.setIfInBounds_toArray, List.set_cons_zero, List.set_cons_succ]
    refine held_call (i := 2) (f := 6) (args := #[.slice lb L.length lc, .slice wb L.length wc]) 34 (by kernel_rfl) rfl rfl rfl (by go_simp) ?_
    refine SA.mono ?_
    rintro e W1 ⟨rfl, kW1⟩
    replace ST : (fun X : World => Keeps (fun _ => False) wd X) W1 := ST.trans kW1
    refine ⟨_, rfl, ST, ?_⟩
    simp only [Act.put, List.setIfInBounds_toArray, List.set_cons_zero, List.set_cons_succ]
    refine held_take (i := 3) (v := .bool false) 35 rfl rfl (by kernel_rfl) (by kernel_rfl) (by kernel_rfl) rfl (fun w' hw' => by go_simp) ST ?_
    simp only [Act.put, List.setIfInBounds_toArray, List.set_cons_zero, List.set_cons_succ]
    refine held_take (i := 4) (v := .bool false) 36 rfl rfl (by kernel_rfl) (by kernel_rfl) (by kernel_rfl) rfl (fun w' hw' => by go_simp) ST ?_
    simp only [Act.put, List.setIfInBounds_toArray, List.set_cons_zero, List.set_cons_succ]
    refine held_take (i := 5) (v := .int .i64 (n : Int)) 37 rfl rfl (by kernel_rfl) (by kernel_rfl) (by kernel_rfl) rfl (fun w' hw' => by go_simp) ST ?_
    simp only [Act.put, List.setIfInBounds_toArray, List.set_cons_zero, List.set_cons_succ]
    refine held_take (i := 6) (v := .int .i64 (n : Int)) 38 rfl rfl (by kernel_rfl) (by kernel_rfl) (by kernel_rfl) rfl (fun w' hw' => by go_simp) ST ?_
    simp only [Act.put, List.setIfInBounds_toArray, List.set_cons_zero, List.set_cons_succ]
    refine held_take (i := 7) (v := .bool false) 39 rfl rfl (by kernel_rfl) (by kernel_rfl) (by kernel_rfl) rfl (fun w' hw' => by go_simp) ST ?_
    simp only [Act.put, List.setIfInBounds_toArray, List.set_cons_zero, List.set_cons_succ]
    refine held_take (i := 8) (v := .bool false) 40 rfl rfl (by kernel_rfl) (by kernel_rfl) (by kernel_rfl) rfl (fun w' hw' => by go_simp) ST ?_
    simp only [Act.put, List.setIfInBounds_toArray, List.set_cons_zero, List.set_cons_succ]
    refine held_take (i := 9) (v := .bool false) 41 rfl rfl (by kernel_rfl) (by kernel_rfl) (by kernel_rfl) rfl (fun w' hw' => by go_simp) ST ?_
    simp only [Act.put, List.setIfInBounds_toArray, List.set_cons_zero, List.set_cons_succ]
    refine held_take (i := 10) (v := .int .i64 0) 42 rfl rfl (by kernel_rfl) (by kernel_rfl) (by kernel_rfl) rfl (fun w' hw' => by go_simp) ST ?_
    simp only [Act.put, List.setIfInBounds_toArray, List.set_cons_zero, List.set_cons_succ]
    refine held_take (i := 13) (v := .bool true) 45 rfl rfl (by kernel_rfl) (by kernel_rfl) (by kernel_rfl) rfl (fun w' hw' => by go_simp) ST ?_
    simp only [Act.put, List.setIfInBounds_toArray, List.set_cons_zero, List.set_cons_succ]
    refine held_call (i := 11) (f := 7) (args := #[.int .i64 0]) 43 (by kernel_rfl) rfl rfl rfl (by go_simp) ?_
    refine (num_any _ _).mono ?_
    rintro e W' ⟨rfl, hW'⟩
    replace hW' := hW'.symm
    subst hW'
    refine ⟨_, rfl, ST, ?_⟩
    simp only [Act.put, List.setIfInBounds_toArray, List.set_cons_zero, List.set_cons_succ]
    refine held_take (i := 12) (v := .bool true) 44 rfl rfl (by kernel_rfl) (by kernel_rfl) (by kernel_rfl) rfl (fun w' hw' => by go_simp) ST ?_
    simp only [Act.put, List.setIfInBounds_toArray, List.set_cons_zero, List.set_cons_succ]
    refine held_take (i := 14) (v := .bool false) 46 rfl rfl (by kernel_rfl) (by kernel_rfl) (by kernel_rfl) rfl (fun w' hw' => by go_simp) ST ?_
    simp only [Act.put, List.setIfInBounds_toArray, List.set_cons_zero, List.set_cons_succ]
    refine held_take (i := 15) (v := .bool false) 47 rfl rfl (by kernel_rfl) (by kernel_rfl) (by kernel_rfl) rfl (fun w' hw' => by go_simp) ST ?_
    simp only [Act.put, List.setIfInBounds_toArray, List.set_cons_zero, List.set_cons_succ]
    refine held_take (i := 16) (v := .bool false) 48 rfl rfl (by kernel_rfl) (by kernel_rfl) (by kernel_rfl) rfl (fun w' hw' => by go_simp) ST ?_
    simp only [Act.put, List.setIfInBounds_toArray, List.set_cons_zero, List.set_cons_succ]
    refine held_take (i := 17) (v := .bool true) 49 rfl rfl (by kernel_rfl) (by kernel_rfl) (by kernel_rfl) rfl (fun w' hw' => by go_simp) ST ?_
    simp only [Act.put, List.setIfInBounds_toArray, List.set_cons_zero, List.set_cons_succ]
    refine held_take (i := 18) (v := .bool false) 50 rfl rfl (by kernel_rfl) (by kernel_rfl) (by kernel_rfl) rfl (fun w' hw' => by go_simp) ST ?_
    simp only [Act.put, List.setIfInBounds_toArray, List.set_cons_zero, List.set_cons_succ]
    refine held_take (i := 19) (v := .bool false) 51 rfl rfl (by kernel_rfl) (by kernel_rfl) (by kernel_rfl) rfl (fun w' hw' => by go_simp) ST ?_
    simp only [Act.put, List.setIfInBounds_toArray, List.set_cons_zero, List.set_cons_succ]
    refine held_skip (i := 20) 52 rfl rfl (by kernel_rfl) (by kernel_rfl) (by kernel_rfl) rfl ST ?_
    simp only [Act.put, List.setIfInBounds_toArray, List.set_cons_zero, List.set_cons_succ]
    refine held_skip (i := 21) 53 rfl rfl (by kernel_rfl) (by kernel_rfl) (by kernel_rfl) rfl ST ?_
    simp only [Act.put, List.setIfInBounds_toArray, List.set_cons_zero, List.set_cons_succ]
    refine held_skip (i := 22) 54 rfl rfl (by kernel_rfl) (by kernel_rfl) (by kernel_rfl) rfl ST ?_
    simp only [Act.put, List.setIfInBounds_toArray, List.set_cons_zero, List.set_cons_succ]
    refine held_take (i := 23) (v := .bool false) 55 rfl rfl (by kernel_rfl) (by kernel_rfl) (by kernel_rfl) rfl (fun w' hw' => by go_simp) ST ?_
    simp only [Act.put, List.setIfInBounds_toArray, List.set_cons_zero, List.set_cons_succ]
    refine held_take (i := 24) (v := .bool false) 56 rfl rfl (by kernel_rfl) (by kernel_rfl) (by kernel_rfl) rfl (fun w' hw' => by go_simp) ST ?_
    simp only [Act.put, List.setIfInBounds_toArray, List.set_cons_zero, List.set_cons_succ]
    refine held_take (i := 25) (v := .bool false) 57 rfl rfl (by kernel_rfl) (by kernel_rfl) (by kernel_rfl) rfl (fun w' hw' => by go_simp) ST ?_
    simp only [Act.put, List.setIfInBounds_toArray, List.set_cons_zero, List.set_cons_succ]
    refine held_take (i := 26) (v := .slice (some ⟨gx, 0, none⟩) (l.length + 1) cx) 58 rfl rfl (by kernel_rfl) (by kernel_rfl) (by kernel_rfl) rfl (fun w' hw' => by go_simp) ST ?_
    simp only [Act.put, List.setIfInBounds_toArray, List.set_cons_zero, List.set_cons_succ]
    refine held_take (i := 27) (v := .slice av l.length vc) 59 rfl rfl (by kernel_rfl) (by kernel_rfl) (by kernel_rfl) rfl (fun w' hw' => by go_simp) ST ?_
    simp only [Act.put, List.setIfInBounds_toArray, List.set_cons_zero, List.set_cons_succ]
    refine held_take (i := 31) (v := .slice av l.length vc) 63 rfl rfl (by kernel_rfl) (by kernel_rfl) (by kernel_rfl) rfl (fun w' hw' => by go_simp) ST ?_
    simp only [Act.put, List.setIfInBounds_toArray, List.set_cons_zero, List.set_cons_succ]
    refine held_take (i := 28) (v := .int .i64 (l.length : Int)) 60 rfl rfl (by kernel_rfl) (by kernel_rfl) (by kernel_rfl) rfl (fun w' hw' => by go_simp) ST ?_
    simp only [Act.put, List.setIfInBounds_toArray, List.set_cons_zero, List.set_cons_succ]
    refine held_take (i := 29) (v := .slice (some ⟨gx, 0, none⟩) l.length cx) 61 rfl rfl (by kernel_rfl) (by kernel_rfl) (by kernel_rfl) rfl (fun w' hw' => by go_simp; intro hh; omega) ST ?_
    simp only [Act.put, List.setIfInBounds_toArray, List.set_cons_zero, List.set_cons_succ]
    refine held_take (i := 30) (v := .string ⟨l.toArray⟩) 62 rfl rfl (by kernel_rfl) (by kernel_rfl) (by kernel_rfl) rfl (fun w' hw' => run_convert_op rfl rfl (bt_string (HVX.out w' hw').1)) ST ?_
    simp only [Act.put, List.setIfInBounds_toArray, List.set_cons_zero, List.set_cons_succ]
    refine held_take (i := 32) (v := .string ⟨l.toArray⟩) 64 rfl rfl (by kernel_rfl) (by kernel_rfl) (by kernel_rfl) rfl (fun w' hw' => run_convert_op rfl rfl (bt_string (HVB.out w' hw'))) ST ?_
    simp only [Act.put, List.setIfInBounds_toArray, List.set_cons_zero, List.set_cons_succ]
    refine held_take (i := 33) (v := .bool false) 65 rfl rfl (by kernel_rfl) (by kernel_rfl) (by kernel_rfl) rfl (fun w' hw' => by go_simp) ST ?_
    simp only [Act.put, List.setIfInBounds_toArray, List.set_cons_zero, List.set_cons_succ]
    refine held_take (i := 34) (v := .bool false) 66 rfl rfl (by kernel_rfl) (by kernel_rfl) (by kernel_rfl) rfl (fun w' hw' => by go_simp) ST ?_
    simp only [Act.put, List.setIfInBounds_toArray, List.set_cons_zero, List.set_cons_succ]
    refine held_take (i := 35) (v := .bool false) 67 rfl rfl (by kernel_rfl) (by kernel_rfl) (by kernel_rfl) rfl (fun w' hw' => by go_simp) ST ?_
    simp only [Act.put, List.setIfInBounds_toArray, List.set_cons_zero, List.set_cons_succ]
    refine held_take (i := 36) (v := .slice (some ⟨gx, 0, none⟩) (l.length + 1) cx) 68 rfl rfl (by kernel_rfl) (by kernel_rfl) (by kernel_rfl) rfl (fun w' hw' => by go_simp) ST ?_
    simp only [Act.put, List.setIfInBounds_toArray, List.set_cons_zero, List.set_cons_succ]
    refine held_take (i := 37) (v := .slice av l.length vc) 69 rfl rfl (by kernel_rfl) (by kernel_rfl) (by kernel_rfl) rfl (fun w' hw' => by go_simp) ST ?_
    simp only [Act.put, List.setIfInBounds_toArray, List.set_cons_zero, List.set_cons_succ]
    refine held_take (i := 38) (v := .int .i64 (l.length : Int)) 70 rfl rfl (by kernel_rfl) (by kernel_rfl) (by kernel_rfl) rfl (fun w' hw' => by go_simp) ST ?_
    simp only [Act.put, List.setIfInBounds_toArray, List.set_cons_zero, List.set_cons_succ]
    refine held_take (i := 39) (v := .pointer (some ⟨gx, l.length, none⟩)) 71 rfl rfl (by kernel_rfl) (by kernel_rfl) (by kernel_rfl) rfl (fun w' hw' => by go_simp; intro hh; omega) ST ?_
    simp only [Act.put, List.setIfInBounds_toArray, List.set_cons_zero, List.set_cons_succ]
    refine held_take (i := 40) (v := .int .u8 165) 72 rfl rfl (by kernel_rfl) (by kernel_rfl) (by kernel_rfl) rfl (fun w' hw' => by have hcell := (HVX.out w' hw').2; go_simp) ST ?_
    simp only [Act.put, List.setIfInBounds_toArray, List.set_cons_zero, List.set_cons_succ]
    refine held_take (i := 41) (v := .bool false) 73 rfl rfl (by kernel_rfl) (by kernel_rfl) (by kernel_rfl) rfl (fun w' hw' => by go_simp) ST ?_
    simp only [Act.put, List.setIfInBounds_toArray, List.set_cons_zero, List.set_cons_succ]
    refine held_take (i := 42) (v := .bool false) 74 rfl rfl (by kernel_rfl) (by kernel_rfl) (by kernel_rfl) rfl (fun w' hw' => by go_simp) ST ?_
    simp only [Act.put, List.setIfInBounds_toArray, List.set_cons_zero, List.set_cons_succ]
    refine held_end (by kernel_rfl) ?_ _
    have BY := bytes_any (.slice lb L.length lc) L W1 (HIL.out.keeps ST)
    unfold BPost at BY
    clear SA
    go_wp2_with fail
    refine BY.mono ?_
    rintro e w6 ⟨⟨q1, q2⟩, k6⟩
    have kk6 := ST.trans k6
    clear BY
    obtain ⟨vc2, rfl, hb6⟩ := q1 (List.all_eq_true.2 (HBK.out (by first | rfl | trivial)).2)
    rw [(HBK.out (by first | rfl | trivial)).1] at hb6
    obtain ⟨cb, cc, rfl⟩ := hb6.form
    have t1 := bts_string hb6
    have t2 := bt_string (HVB.out w6 kk6)
    have hW := works_any w6 (HGL.out w6 ((HK2.out.trans HKD.out).trans kk6))
    have kw := (HK2.out.trans HKD.out).trans kk6
    clear q1 q2 hb6 HBK HWF HVB HVX HIL ST k6 kk6 HKD HK2 HGL HB
    go_wp2_with (first | (go_at_call 7; refine (num_any _ _).mono ?_; rintro e w' ⟨rfl, hw'⟩; replace hw' := hw'.symm; subst hw'))
    refine hW.mono ?_
    rintro e w7 ⟨rfl, k7⟩
    have kk := kw.trans k7
    clear hW
    go_wp2_with fail
    go_ret
    exact ⟨rfl, kk⟩
end Go.Proofs.YtijommlodgpphaaDoor
