
/- A walk of write (layer 16). No statement of the seat is proved here. -/
import Derived.Test.YthgkbmfnidehbaaDoorOpH
import Derived.Test.YthgkbmfnidehbaaDoorOpAI
namespace Go.Proofs.YthgkbmfnidehbaaDoor
open Go.RowKit Go.Shelf

/-- A course is another one now. -/
theorem StAt.upd {w w' : World} {mb base : Nat} {f : Int → Option Sl} {S : Crs2} (h : StAt w mb base f S) (ad : Int) (s' : Sl) (l' : List (Int × Int)) (k : Keeps (fun q => (∃ s, f ad = some s ∧ s.v.ownBlock = some q) ∨ q = mb) w w') (hm : MapS w' mb (fun y => if y = ad then some s' else f y)) (hr : OwnR stC 2 104 w' base s'.v l') (hq : ∀ q, s'.v.ownBlock = some q → (∃ s, f ad = some s ∧ s.v.ownBlock = some q) ∨ w.heap.size ≤ q) :
    StAt w' mb base (fun y => if y = ad then some s' else f y) (fun y => if y = ad then some l' else S y) := by
  refine ⟨hm, fun a => ?_, fun a s hs => ?_, fun a b s t q ha hb hqs hqt => ?_, h.lo⟩
  · split
    · rfl
    · exact h.dom a
  · by_cases e : a = ad
    · rw [if_pos e] at hs ⊢
      cases hs; exact hr
    · rw [if_neg e] at hs ⊢
      refine (h.row a s hs).keeps k fun g hg => ?_
      have hb := own_block (h.row a s hs).own hg
      rintro (⟨t, ht, hqt⟩ | rfl)
      · exact e (h.ap a ad s t g hs ht hg hqt)
      · have := h.lo; omega
  · by_cases e1 : a = ad <;> by_cases e2 : b = ad
    · rw [e1, e2]
    · rw [if_pos e1] at ha
      rw [if_neg e2] at hb
      cases ha
      rcases hq q hqs with ⟨t', ht', hq'⟩ | hge
      · exact e1.trans (h.ap b ad t t' q hb ht' hqt hq').symm
      · have := own_block (h.row b t hb).own hqt; omega
    · rw [if_neg e1] at ha
      rw [if_pos e2] at hb
      cases hb
      rcases hq q hqt with ⟨t', ht', hq'⟩ | hge
      · exact (h.ap a ad s t' q ha ht' hqs hq').trans e2.symm
      · have := own_block (h.row a s ha).own hqs; omega
    · rw [if_neg e1] at ha
      rw [if_neg e2] at hb
      exact h.ap a b s t q ha hb hqs hqt
theorem putS_eq (F : List Int) (S : Crs2) (n ad x : Int) : putS F S n (ad, x) = fun y => if y = ad then some (insC (crs F S ad) n x) else S y := rfl
/-- What write leaves. -/
def WrP (F : List Int) (S : Crs2) (n ad x : Int) (mb base : Nat) (_f : Int → Option Sl) (w : World) (ex : Ending) (w' : World) : Prop := ex = .returned (.tuple #[]) ∧ (∃ f', StAt w' mb base f' (putS F S n (ad, x))) ∧ Keeps (fun q => q = mb ∨ base ≤ q) w w'
set_option maxRecDepth 100000 in
set_option maxHeartbeats 8000000 in
theorem write_new (pb mb base : Nat) (f : Int → Option Sl) (S : Crs2) (n ad x : Int) (v : Value) (F : List Int) (hn : 0 < n) (h0 : 0 ≤ ad) (h1 : ad < F.length) (w : World) (c0 : w.cell? ⟨pb, 0, none⟩ = some v) (c4 : w.cell? ⟨pb, 4, none⟩ = some (.map (some mb))) (hF : WsAt w v F) (h : StAt w mb base f S) (hf : f ad = none) (hb : base ≤ w.heap.size) :
    Calls Tryd.prog 30 #[.pointer (some ⟨pb, 0, none⟩), .int .i64 n, .agg #[.int .u64 ad, .int .u64 x, .bool false]] w (WrP F S n ad x mb base f w) := by
  have hS : S ad = none := by have := h.dom ad; rw [hf] at this; simpa using this.symm
  have hcr : insC (crs F S ad) n x = [(0, wdAt F ad), (n, x)] := by
    have e : crs F S ad = [(0, wdAt F ad)] := by unfold crs; rw [hS]; rfl
    rw [e]; unfold insC
    rw [if_neg (by simp; omega)]; rfl
  have kA := (Keeps.refl (fun _ => False) w).alloc (.cells #[.int .u64 ad, .int .u64 x, .bool false] 60)
  have bA := (MapKept.heap_alloc w (.cells #[.int .u64 ad, .int .u64 x, .bool false] 60)).1
  obtain ⟨A, hA⟩ : ∃ A, A = w.alloc (.cells #[.int .u64 ad, .int .u64 x, .bool false] 60) := ⟨_, rfl⟩
  have hsA : A.heap.size = w.heap.size + 1 := by rw [hA]; simp
  rw [← hA] at kA bA
  have CO := course_new pb mb base f S ad v F h0 h1 A (kA.cellB (fun f => f) c0) (kA.cellB (fun f => f) c4) (hF.keeps wC_ne kA) (h.keeps kA (fun f => f) (fun _ _ _ f => f)) hf
  have kB := (Keeps.refl (fun _ => False) A).alloc (.cells #[.int .i64 0, .int .u64 (wdAt F ad)] 104)
  have bB := (MapKept.heap_alloc A (.cells #[.int .i64 0, .int .u64 (wdAt F ad)] 104)).1
  have K2 := kA.trans kB
  have hsB : (A.alloc (.cells #[.int .i64 0, .int .u64 (wdAt F ad)] 104)).heap.size = A.heap.size + 1 := by simp
  generalize hd : wdAt F ad = d at *
  obtain ⟨B, hB⟩ : ∃ B, B = A.alloc (.cells #[.int .i64 0, .int .u64 d] 104) := ⟨_, rfl⟩
  rw [← hB] at CO kB bB K2 hsB
  have hB2 : B = A.alloc (.cells #[.int .i64 0, .int .u64 d] 104) := hB
  have oB : OwnR stC 2 104 B.drew A.heap.size (.slice (some ⟨A.heap.size, 0, none⟩) 1 1) [(0, d)] := OwnR.ofBlock (L := [((0 : Int), d)]) st_len (w := B.drew) bB rfl (Nat.le_refl _) (by simp [maxLen])
  obtain ⟨v', w3, r1, r2, r3⟩ := oB.push st_len st_one (by decide) Tryd.underlying102 info_st rfl (by decide) (ty := 102) (n, x) (cs := #[.int .i64 n, .int .u64 x]) rfl (by simp)
  obtain ⟨s', hv', -⟩ := sl_of r2
  have K3 : Keeps (fun _ => False) w w3 := by
    refine K2.drew.young (S := fun q => q = A.heap.size) ((r3.keeps.mono fun q _ hq => ?_)) (fun q hq => by omega)
    simp only [Value.ownBlock, Option.some.injEq] at hq
    exact hq.symm
  have h3 := h.keeps K3 (fun f => f) (fun _ _ _ f => f)
  obtain ⟨w4, m1, m2, m3⟩ := h3.map.put ad s'
  have hvo : ∀ q, s'.v.ownBlock = some q → A.heap.size ≤ q := fun q hq => by rw [← hv'] at hq; exact (own_block r2.own hq).2
  have hmo : ∀ q, s'.v.ownBlock = some q → q ≠ mb := fun q hq e => by have := hvo q hq; have := h.lo; have := h.map.lt; omega
  have r4 := (r2.keeps m3 (fun q hq e => hmo q (by rw [← hv']; exact hq) e)).low (b' := base) (by omega)
  rw [hv'] at r4 r1
  have K4 : Keeps (fun q => (∃ s, f ad = some s ∧ s.v.ownBlock = some q) ∨ q = mb) w w4 := (K3.mono fun _ _ f => f.elim).trans (m3.mono fun q _ e => .inr e)
  have HF : Hid (WrP F S n ad x mb base f w (.returned (.tuple #[])) w4) := by
    refine ⟨rfl, ⟨fun y => if y = ad then some s' else f y, ?_⟩, K4.mono fun q _ hq => ?_⟩
    · rw [putS_eq, hcr]
      exact h.upd ad s' _ K4 m2 r4 (fun q hq => .inr (by have := hvo q hq; omega))
    · rcases hq with ⟨s, hs, _⟩ | e
      · rw [hf] at hs; cases hs
      · exact .inl e
  have S0 : B.drew.cell? ⟨pb, 4, none⟩ = some (.map (some mb)) ∧ B.drew.cell? ⟨w.heap.size, 0, none⟩ = some (.int .u64 ad) ∧ B.drew.cell? ⟨w.heap.size, 1, none⟩ = some (.int .u64 x) := ⟨K2.cellB (fun f => f) c4, by rw [cell_of_block (w := B.drew) ((kB.block _ (lt_of_block bA) (fun f => f)).trans bA)]; rfl, by rw [cell_of_block (w := B.drew) ((kB.block _ (lt_of_block bA) (fun f => f)).trans bA)]; rfl⟩
  have kC := (Keeps.refl (fun _ => False) B.drew).alloc (.cells #[.int .i64 n, .int .u64 x] 104)
  have S1 : (B.drew.alloc (.cells #[.int .i64 n, .int .u64 x] 104)).cell? ⟨pb, 4, none⟩ = some (.map (some mb)) ∧ (B.drew.alloc (.cells #[.int .i64 n, .int .u64 x] 104)).cell? ⟨w.heap.size, 0, none⟩ = some (.int .u64 ad) ∧ (B.drew.alloc (.cells #[.int .i64 n, .int .u64 x] 104)).cell? ⟨w.heap.size, 1, none⟩ = some (.int .u64 x) := ⟨kC.cellB (fun f => f) S0.1, kC.cellB (fun f => f) S0.2.1, kC.cellB (fun f => f) S0.2.2⟩
  have hnb : ∀ b : Nat, b < A.heap.size → ¬ (Value.slice (some ⟨A.heap.size, 0, none⟩) 1 1).ownBlock = some b := fun b hb hq => by simp only [Value.ownBlock, Option.some.injEq] at hq; omega
  have l4 : pb < w.heap.size := World.block_lt_of_cell? _ _ c4
  have S2 : w3.cell? ⟨pb, 4, none⟩ = some (.map (some mb)) ∧ w3.cell? ⟨w.heap.size, 0, none⟩ = some (.int .u64 ad) ∧ w3.cell? ⟨w.heap.size, 1, none⟩ = some (.int .u64 x) := ⟨r3.keeps.cellB (hnb pb (by omega)) S0.1, r3.keeps.cellB (hnb w.heap.size (by omega)) S0.2.1, r3.keeps.cellB (hnb w.heap.size (by omega)) S0.2.2⟩
  have cB0 : B.cell? ⟨A.heap.size, 0, none⟩ = some (.int .i64 0) := by rw [cell_of_block bB]; rfl
  have hnz : ((0 : Int) == n) = false := by rw [beq_eq_false_iff_ne]; omega
  obtain ⟨sa, sn, sc⟩ := s'
  dsimp only [Sl.v] at r1 m1
  have HA : Hid (_ = _) := r1
  have hBB : B.drew.heap.size = B.heap.size := rfl
  rw [hBB] at HA
  obtain ⟨gB, hgB⟩ : ∃ gB, gB = A.heap.size := ⟨_, rfl⟩
  rw [← hgB] at CO HA cB0
  have HG : Hid (gB = A.heap.size) := hgB
  clear hgB r1 r2 r3 r4 K3 K4 h3 m2 m3 hvo hmo oB bB kB K2 bA kA hsB hsA hB hB2 hv' hBB c0 c4 hF h hf hcr hS hb kC hnb l4
  clear h0 h1 hd
  have hA2 : Hid (A = _) := hA
  subst hA
  go_enter Tryd.func30, Tryd.ntmps30
  go_wp2_with fail
  refine CO.mono ?_
  rintro ex w1 ⟨rfl, hw1⟩
  subst w1
  clear CO
  go_wp2_with fail
  refine wp_until (S := (fun W : World => W.cell? ⟨pb, 4, none⟩ = some (.map (some mb)) ∧ W.cell? ⟨w.heap.size, 0, none⟩ = some (.int .u64 ad) ∧ W.cell? ⟨w.heap.size, 1, none⟩ = some (.int .u64 x))) 13 14 rfl hmxp ?_
  simp only [Array.replicate_succ, Array.replicate_zero, List.push_toArray, List.nil_append, List.cons_append]
  refine u_take (i := 0) (v := (.pointer (some ⟨pb, 0, none⟩))) 28 rfl rfl (by kernel_rfl) (by kernel_rfl) (by kernel_rfl) (by kernel_rfl) rfl (fun w' hw' => by obtain ⟨q0, q1, q2⟩ := hw'; go_simp) S0 ?_
  simp only [Act.put, List.setIfInBounds_toArray, List.set_cons_zero, List.set_cons_succ]
  refine u_take (i := 1) (v := (.pointer (some ⟨pb, 0, none⟩))) 29 rfl rfl (by kernel_rfl) (by kernel_rfl) (by kernel_rfl) (by kernel_rfl) rfl (fun w' hw' => by obtain ⟨q0, q1, q2⟩ := hw'; go_simp) S0 ?_
  simp only [Act.put, List.setIfInBounds_toArray, List.set_cons_zero, List.set_cons_succ]
  refine u_take (i := 2) (v := (.pointer (some ⟨pb, 4, none⟩))) 30 rfl rfl (by kernel_rfl) (by kernel_rfl) (by kernel_rfl) (by kernel_rfl) rfl (fun w' hw' => by obtain ⟨q0, q1, q2⟩ := hw'; go_simp) S0 ?_
  simp only [Act.put, List.setIfInBounds_toArray, List.set_cons_zero, List.set_cons_succ]
  refine u_take (i := 3) (v := (.map (some mb))) 31 rfl rfl (by kernel_rfl) (by kernel_rfl) (by kernel_rfl) (by kernel_rfl) rfl (fun w' hw' => by obtain ⟨q0, q1, q2⟩ := hw'; go_simp) S0 ?_
  simp only [Act.put, List.setIfInBounds_toArray, List.set_cons_zero, List.set_cons_succ]
  refine u_take (i := 4) (v := (.pointer (some ⟨w.heap.size, 0, none⟩))) 32 rfl rfl (by kernel_rfl) (by kernel_rfl) (by kernel_rfl) (by kernel_rfl) rfl (fun w' hw' => by obtain ⟨q0, q1, q2⟩ := hw'; go_simp) S0 ?_
  simp only [Act.put, List.setIfInBounds_toArray, List.set_cons_zero, List.set_cons_succ]
  refine u_take (i := 5) (v := (.int .u64 ad)) 33 rfl rfl (by kernel_rfl) (by kernel_rfl) (by kernel_rfl) (by kernel_rfl) rfl (fun w' hw' => by obtain ⟨q0, q1, q2⟩ := hw'; go_simp) S0 ?_
  simp only [Act.put, List.setIfInBounds_toArray, List.set_cons_zero, List.set_cons_succ]
  refine u_take (i := 6) (v := (.slice (some ⟨gB, 0, none⟩) 1 1)) 34 rfl rfl (by kernel_rfl) (by kernel_rfl) (by kernel_rfl) (by kernel_rfl) rfl (fun w' hw' => by obtain ⟨q0, q1, q2⟩ := hw'; go_simp) S0 ?_
  simp only [Act.put, List.setIfInBounds_toArray, List.set_cons_zero, List.set_cons_succ]
  refine u_take (i := 7) (v := (.int .i64 n)) 35 rfl rfl (by kernel_rfl) (by kernel_rfl) (by kernel_rfl) (by kernel_rfl) rfl (fun w' hw' => by obtain ⟨q0, q1, q2⟩ := hw'; go_simp) S0 ?_
  simp only [Act.put, List.setIfInBounds_toArray, List.set_cons_zero, List.set_cons_succ]
  refine u_take (i := 8) (v := (.pointer (some ⟨w.heap.size, 1, none⟩))) 36 rfl rfl (by kernel_rfl) (by kernel_rfl) (by kernel_rfl) (by kernel_rfl) rfl (fun w' hw' => by obtain ⟨q0, q1, q2⟩ := hw'; go_simp) S0 ?_
  simp only [Act.put, List.setIfInBounds_toArray, List.set_cons_zero, List.set_cons_succ]
  refine u_take (i := 9) (v := (.int .u64 x)) 37 rfl rfl (by kernel_rfl) (by kernel_rfl) (by kernel_rfl) (by kernel_rfl) rfl (fun w' hw' => by obtain ⟨q0, q1, q2⟩ := hw'; go_simp) S0 ?_
  simp only [Act.put, List.setIfInBounds_toArray, List.set_cons_zero, List.set_cons_succ]
  refine u_take (i := 10) (v := (.agg #[.int .i64 n, .int .u64 x])) 38 rfl rfl (by kernel_rfl) (by kernel_rfl) (by kernel_rfl) (by kernel_rfl) rfl (fun w' hw' => by obtain ⟨q0, q1, q2⟩ := hw'; go_simp) S0 ?_
  simp only [Act.put, List.setIfInBounds_toArray, List.set_cons_zero, List.set_cons_succ]
  refine u_val (i := 11) (v := (.slice (some ⟨B.heap.size, 0, none⟩) 1 1)) (w' := B.drew.alloc (.cells #[.int .i64 n, .int .u64 x] 104)) (some 39) (by kernel_rfl) rfl rfl rfl (by go_simp) S1 ?_
  simp only [Act.put, List.setIfInBounds_toArray, List.set_cons_zero, List.set_cons_succ]
  refine u_val (i := 12) (v := (.slice sa sn sc)) (w' := w3) (some 40) (by kernel_rfl) rfl rfl rfl (run_append_op rfl rfl rfl HA.out) S2 ?_
  simp only [Act.put, List.setIfInBounds_toArray, List.set_cons_zero, List.set_cons_succ]
  refine u_last (w' := w4) (by kernel_rfl) rfl rfl rfl (by go_simp) (by kernel_rfl) ?_
  go_wp2_with fail
  go_end0
  exact HF.out
theorem insC_same {l : List (Int × Int)} {n x : Int} (hne : 0 < l.length) (hl : (l[l.length - 1]'(by omega)).1 = n) : insC l n x = l.set (l.length - 1) (n, x) := by
  obtain ⟨l', p, rfl⟩ : ∃ l' p, l = l' ++ [p] := ⟨l.dropLast, l.getLast (by intro e; rw [e] at hne; exact absurd hne (by simp)), (List.dropLast_concat_getLast _).symm⟩
  simp at hl
  unfold insC
  rw [List.getLast?_concat, List.dropLast_concat]
  simp [hl]
theorem insC_more {l : List (Int × Int)} {n x : Int} (hne : 0 < l.length) (hl : (l[l.length - 1]'(by omega)).1 ≠ n) : insC l n x = l ++ [(n, x)] := by
  obtain ⟨l', p, rfl⟩ : ∃ l' p, l = l' ++ [p] := ⟨l.dropLast, l.getLast (by intro e; rw [e] at hne; exact absurd hne (by simp)), (List.dropLast_concat_getLast _).symm⟩
  simp at hl
  unfold insC
  rw [List.getLast?_concat]
  simp [hl]
set_option maxRecDepth 100000 in
set_option maxHeartbeats 8000000 in
theorem write_same (pb mb base : Nat) (f : Int → Option Sl) (S : Crs2) (n ad x : Int) (F : List Int) (s : Sl) (l : List (Int × Int)) (m : Nat) (hm : l.length = m + 1) (hll : l.length ≤ 1100000) (w : World) (c4 : w.cell? ⟨pb, 4, none⟩ = some (.map (some mb))) (_hpb : pb < base) (_hbs : base ≤ w.heap.size) (h : StAt w mb base f S) (hf : f ad = some s) (hS : S ad = some l) (hl : (l[l.length - 1]'(by omega)).1 = n) :
    Calls Tryd.prog 30 #[.pointer (some ⟨pb, 0, none⟩), .int .i64 n, .agg #[.int .u64 ad, .int .u64 x, .bool false]] w (WrP F S n ad x mb base f w) := by
  have hcr : crs F S ad = l := by unfold crs; rw [hS]; rfl
  have ho := h.row ad s hf
  rw [hS, Option.getD_some] at ho
  obtain ⟨sa, sn, sc⟩ := s
  dsimp only [Sl.v] at ho
  obtain ⟨g, cap, cur, hv, hbg, hgb, hgs⟩ := ho.at (by omega)
  injection hv with e1 e2 e3
  subst e1 e2 e3
  have hown : ∀ q, (∃ s, f ad = some s ∧ s.v.ownBlock = some q) ↔ q = g := fun q => by
    rw [hf]
    simp only [Option.some.injEq]
    exact ⟨fun ⟨s, e, hq⟩ => by subst e; simp only [Value.ownBlock, Option.some.injEq] at hq; exact hq.symm, fun e => ⟨_, rfl, by rw [e]; rfl⟩⟩
  have kA := (Keeps.refl (fun _ => False) w).alloc (.cells #[.int .u64 ad, .int .u64 x, .bool false] 60)
  have bA := (MapKept.heap_alloc w (.cells #[.int .u64 ad, .int .u64 x, .bool false] 60)).1
  have hg1 := lt_of_block hgb
  have hsA : (w.alloc (.cells #[.int .u64 ad, .int .u64 x, .bool false] 60)).heap.size = w.heap.size + 1 := by simp
  have CO := course_old pb mb base f S ad ⟨some ⟨g, 0, none⟩, l.length, sc⟩ _ (kA.cellB (fun f => f) c4) (h.keeps kA (fun f => f) (fun _ _ _ f => f)) hf
  dsimp only [Sl.v] at CO
  have oA := ho.keeps kA (fun _ _ f => f)
  obtain ⟨g', off', hgg, hcc⟩ := (oA.els st_len).at m (by omega)
  have hoo := (oA.els st_len)
  have hmg : g = g' ∧ off' = 0 := by
    rcases oA.own.2 with ⟨q, _⟩ | ⟨g3, cap3, cur3, q1, _⟩
    · cases q
    · simp only [Option.some.injEq, Addr.mk.injEq, and_true] at hgg
      exact ⟨hgg.1, hgg.2.symm⟩
  obtain ⟨rfl, rfl⟩ := hmg
  have hlm : l[l.length - 1]'(by omega) = l[m]'(by omega) := by congr 1; omega
  rw [hlm] at hl
  have y0 := hcc 0 _ rfl
  have y1 := hcc 1 _ rfl
  simp only [Nat.zero_add, Nat.add_zero] at y0 y1
  rw [hl] at y0
  have r1 := oA.set st_len m 1 (n, x) (.int .u64 x) (by omega) (by decide) (by rw [← hl]; rfl)
  have hin : insC l n x = l.set m (n, x) := by rw [insC_same (by omega) (by rw [hlm]; exact hl)]; congr 1; omega
  have fz : (w.alloc (.cells #[.int .u64 ad, .int .u64 x, .bool false] 60)).frozen? ⟨g, m * 2 + 1, none⟩ = false := frozen_of_block ((kA.block g hg1 (fun f => f)).trans hgb) _
  have kS := (Keeps.refl (fun q => q = g) (w.alloc (.cells #[.int .u64 ad, .int .u64 x, .bool false] 60))).setCell (p := ⟨g, m * 2 + 1, none⟩) (.inr rfl) (.int .u64 x)
  have K4 : Keeps (fun q => (∃ s, f ad = some s ∧ s.v.ownBlock = some q) ∨ q = mb) w ((w.alloc (.cells #[.int .u64 ad, .int .u64 x, .bool false] 60)).setCell ⟨g, m * 2 + 1, none⟩ (.int .u64 x)) := (kA.mono fun _ _ f => f.elim).trans (kS.mono fun q _ e => .inl ((hown q).2 e))
  have hmb : ¬ mb = g := by have := h.lo; omega
  have m2 := (h.map.keeps kA (fun f => f)).keeps kS hmb
  have HF : Hid (WrP F S n ad x mb base f w (.returned (.tuple #[])) ((w.alloc (.cells #[.int .u64 ad, .int .u64 x, .bool false] 60)).setCell ⟨g, m * 2 + 1, none⟩ (.int .u64 x))) := by
    refine ⟨rfl, ⟨fun y => if y = ad then some ⟨some ⟨g, 0, none⟩, l.length, sc⟩ else f y, ?_⟩, K4.mono fun q _ hq => ?_⟩
    · rw [putS_eq, hcr, hin]
      refine h.upd ad _ _ K4 ?_ r1 (fun q hq => .inl ((hown q).2 ?_))
      · have e : (fun y => if y = ad then some (⟨some ⟨g, 0, none⟩, l.length, sc⟩ : Sl) else f y) = f := by
          funext y
          split
          · rename_i q; rw [q, hf]
          · rfl
        rw [e]; exact m2
      · simp only [Value.ownBlock, Option.some.injEq] at hq; exact hq.symm
    · rcases hq with q | e
      · right; rw [(hown _).1 q]; exact hbg
      · exact .inl e
  have z1 : (w.alloc (.cells #[.int .u64 ad, .int .u64 x, .bool false] 60)).cell? ⟨w.heap.size, 1, none⟩ = some (.int .u64 x) := by rw [cell_of_block bA]; rfl
  have hmN : ((l.length : Int) - 1) = (m : Int) := by omega
  have w1 : IntKind.i64.wrap ((l.length : Int) - 1) = (m : Int) := by rw [hmN, IntKind.wrap_i64]; omega
  have hm0 : (0 : Int) ≤ (m : Int) := by omega
  have hm1 : (m : Int) < (l.length : Int) := by omega
  obtain ⟨y2, hy2⟩ : ∃ y2, y2 = (l[m]'(by omega)).2 := ⟨_, rfl⟩
  rw [← hy2] at y1
  clear hy2
  clear r1 hoo hcc hgg K4 kS m2 hin hcr hlm hl oA ho h hf hS hown kA bA hsA hgb hgs c4 hm hmN
  go_enter Tryd.func30, Tryd.ntmps30
  go_wp2_with fail
  refine CO.mono ?_
  rintro ex wq ⟨rfl, hwq⟩
  subst wq
  clear CO
  generalize w.alloc (.cells #[.int .u64 ad, .int .u64 x, .bool false] 60) = A at *
  go_wp2_with fail
  go_end0
  exact HF.out
set_option maxRecDepth 100000 in
set_option maxHeartbeats 8000000 in
theorem write_more (pb mb base : Nat) (f : Int → Option Sl) (S : Crs2) (n ad x : Int) (F : List Int) (s : Sl) (l : List (Int × Int)) (m : Nat) (hm : l.length = m + 1) (hll : l.length ≤ 1100000) (w : World) (c4 : w.cell? ⟨pb, 4, none⟩ = some (.map (some mb))) (hpb : pb < base) (_hbs : base ≤ w.heap.size) (h : StAt w mb base f S) (hf : f ad = some s) (hS : S ad = some l) (hl : (l[l.length - 1]'(by omega)).1 ≠ n) :
    Calls Tryd.prog 30 #[.pointer (some ⟨pb, 0, none⟩), .int .i64 n, .agg #[.int .u64 ad, .int .u64 x, .bool false]] w (WrP F S n ad x mb base f w) := by
  have hcr : crs F S ad = l := by unfold crs; rw [hS]; rfl
  have ho := h.row ad s hf
  rw [hS, Option.getD_some] at ho
  obtain ⟨sa, sn, sc⟩ := s
  dsimp only [Sl.v] at ho
  obtain ⟨g, cap, cur, hv, hbg, hgb, hgs⟩ := ho.at (by omega)
  injection hv with e1 e2 e3
  subst e1 e2 e3
  have hown : ∀ q, (∃ s, f ad = some s ∧ s.v.ownBlock = some q) ↔ q = g := fun q => by
    rw [hf]
    simp only [Option.some.injEq]
    exact ⟨fun ⟨s, e, hq⟩ => by subst e; simp only [Value.ownBlock, Option.some.injEq] at hq; exact hq.symm, fun e => ⟨_, rfl, by rw [e]; rfl⟩⟩
  have kA := (Keeps.refl (fun _ => False) w).alloc (.cells #[.int .u64 ad, .int .u64 x, .bool false] 60)
  have bA := (MapKept.heap_alloc w (.cells #[.int .u64 ad, .int .u64 x, .bool false] 60)).1
  have hg1 := lt_of_block hgb
  have hsA : (w.alloc (.cells #[.int .u64 ad, .int .u64 x, .bool false] 60)).heap.size = w.heap.size + 1 := by simp
  have CO := course_old pb mb base f S ad ⟨some ⟨g, 0, none⟩, l.length, sc⟩ _ (kA.cellB (fun f => f) c4) (h.keeps kA (fun f => f) (fun _ _ _ f => f)) hf
  dsimp only [Sl.v] at CO
  have oA := ho.keeps kA (fun _ _ f => f)
  obtain ⟨g', off', hgg, hcc⟩ := (oA.els st_len).at m (by omega)
  have hoo := (oA.els st_len)
  have hmg : g = g' ∧ off' = 0 := by
    rcases oA.own.2 with ⟨q, _⟩ | ⟨g3, cap3, cur3, q1, _⟩
    · cases q
    · simp only [Option.some.injEq, Addr.mk.injEq, and_true] at hgg
      exact ⟨hgg.1, hgg.2.symm⟩
  obtain ⟨rfl, rfl⟩ := hmg
  have hlm : l[l.length - 1]'(by omega) = l[m]'(by omega) := by congr 1; omega
  rw [hlm] at hl
  have y0 := hcc 0 _ rfl
  have y1 := hcc 1 _ rfl
  simp only [Nat.zero_add, Nat.add_zero] at y0 y1
  obtain ⟨A, hA⟩ : ∃ A, A = w.alloc (.cells #[.int .u64 ad, .int .u64 x, .bool false] 60) := ⟨_, rfl⟩
  rw [← hA] at kA bA hsA CO oA y0
  have hin : insC l n x = l ++ [(n, x)] := insC_more (by omega) (by rw [hlm]; exact hl)
  have hln : ((l[m]'(by omega)).1 == n) = false := by rw [beq_eq_false_iff_ne]; exact hl
  generalize (l[m]'(by omega)).1 = sn at y0 hln
  obtain ⟨v', w3, r1, r2, r3⟩ := (oA.keeps (w' := A.drew) (Keeps.refl (fun _ => False) A).drew (fun _ _ f => f)).push st_len st_one (by decide) Tryd.underlying102 info_st rfl (by decide) (ty := 102) (n, x) (cs := #[.int .i64 n, .int .u64 x]) rfl (by omega)
  obtain ⟨s', hv', -⟩ := sl_of r2
  have hvg : ∀ q, (Value.slice (some ⟨g, 0, none⟩) l.length sc).ownBlock = some q → q = g := fun q hq => by simp only [Value.ownBlock, Option.some.injEq] at hq; exact hq.symm
  have K3 : Keeps (fun q => q = g) w w3 := (kA.drew.mono fun _ _ f => f.elim).trans (r3.keeps.mono fun q _ hq => hvg q hq)
  have hmb : ¬ mb = g := by have := h.lo; omega
  obtain ⟨w4, m1, m2, m3⟩ := (h.map.keeps K3 hmb).put ad s'
  have hvo : ∀ q, s'.v.ownBlock = some q → q = g ∨ w.heap.size ≤ q := fun q hq => by
    rw [← hv'] at hq
    rcases r3.own with e | e
    · rw [e] at hq; exact .inl (hvg q hq)
    · right; have h1 := e q hq; have : A.drew.heap.size = A.heap.size := rfl; omega
  have r4 := r2.keeps m3 (fun q hq e => by
    rw [hv'] at hq
    have := (own_block r2.own (by rw [hv']; exact hq)).2
    have := h.lo; omega)
  rw [hv'] at r4 r1
  have K4 : Keeps (fun q => (∃ s, f ad = some s ∧ s.v.ownBlock = some q) ∨ q = mb) w w4 := (K3.mono fun q _ e => .inl ((hown q).2 e)).trans (m3.mono fun q _ e => .inr e)
  have HF : Hid (WrP F S n ad x mb base f w (.returned (.tuple #[])) w4) := by
    refine ⟨rfl, ⟨fun y => if y = ad then some s' else f y, ?_⟩, K4.mono fun q _ hq => ?_⟩
    · rw [putS_eq, hcr, hin]
      refine h.upd ad s' _ K4 m2 r4 (fun q hq => ?_)
      rcases hvo q hq with e | e
      · exact .inl ((hown q).2 e)
      · exact .inr e
    · rcases hq with q | e
      · right; rw [(hown _).1 q]; exact hbg
      · exact .inl e
  have S0 : A.drew.cell? ⟨pb, 4, none⟩ = some (.map (some mb)) ∧ A.drew.cell? ⟨w.heap.size, 0, none⟩ = some (.int .u64 ad) ∧ A.drew.cell? ⟨w.heap.size, 1, none⟩ = some (.int .u64 x) := ⟨kA.cellB (fun f => f) c4, by rw [cell_of_block (w := A.drew) bA]; rfl, by rw [cell_of_block (w := A.drew) bA]; rfl⟩
  have kC := (Keeps.refl (fun _ => False) A.drew).alloc (.cells #[.int .i64 n, .int .u64 x] 104)
  have S1 : (A.drew.alloc (.cells #[.int .i64 n, .int .u64 x] 104)).cell? ⟨pb, 4, none⟩ = some (.map (some mb)) ∧ (A.drew.alloc (.cells #[.int .i64 n, .int .u64 x] 104)).cell? ⟨w.heap.size, 0, none⟩ = some (.int .u64 ad) ∧ (A.drew.alloc (.cells #[.int .i64 n, .int .u64 x] 104)).cell? ⟨w.heap.size, 1, none⟩ = some (.int .u64 x) := ⟨kC.cellB (fun f => f) S0.1, kC.cellB (fun f => f) S0.2.1, kC.cellB (fun f => f) S0.2.2⟩
  have hnb : ∀ b : Nat, b ≠ g → ¬ (Value.slice (some ⟨g, 0, none⟩) l.length sc).ownBlock = some b := fun b hb hq => hb (hvg b hq)
  have S2 : w3.cell? ⟨pb, 4, none⟩ = some (.map (some mb)) ∧ w3.cell? ⟨w.heap.size, 0, none⟩ = some (.int .u64 ad) ∧ w3.cell? ⟨w.heap.size, 1, none⟩ = some (.int .u64 x) := ⟨r3.keeps.cellB (hnb pb (by omega)) S0.1, r3.keeps.cellB (hnb w.heap.size (by omega)) S0.2.1, r3.keeps.cellB (hnb w.heap.size (by omega)) S0.2.2⟩
  have hmN : ((l.length : Int) - 1) = (m : Int) := by omega
  have w1 : IntKind.i64.wrap ((l.length : Int) - 1) = (m : Int) := by rw [hmN, IntKind.wrap_i64]; omega
  have hm0 : (0 : Int) ≤ (m : Int) := by omega
  have hm1 : (m : Int) < (l.length : Int) := by omega
  obtain ⟨ta, tn, tc⟩ := s'
  dsimp only [Sl.v] at r1 m1
  have hAA : A.drew.heap.size = A.heap.size := rfl
  rw [hAA] at r1
  have HA : Hid (_ = _) := r1
  have hA2 : Hid (A = _) := hA
  clear r1 r2 r3 r4 K3 K4 hoo hcc hgg m2 m3 hvo hvg hin hcr hlm hl oA ho h hf hS hown kA bA hsA hgb hgs c4 y1 hm hmN hv' kC hnb hAA
  subst hA
  go_enter Tryd.func30, Tryd.ntmps30
  go_wp2_with fail
  refine CO.mono ?_
  rintro ex wq ⟨rfl, hwq⟩
  subst wq
  clear CO
  go_wp2_with fail
  refine wp_until (S := (fun W : World => W.cell? ⟨pb, 4, none⟩ = some (.map (some mb)) ∧ W.cell? ⟨w.heap.size, 0, none⟩ = some (.int .u64 ad) ∧ W.cell? ⟨w.heap.size, 1, none⟩ = some (.int .u64 x))) 13 14 rfl hmxp ?_
  simp only [Array.replicate_succ, Array.replicate_zero, List.push_toArray, List.nil_append, List.cons_append]
  refine u_take (i := 0) (v := (.pointer (some ⟨pb, 0, none⟩))) 28 rfl rfl (by kernel_rfl) (by kernel_rfl) (by kernel_rfl) (by kernel_rfl) rfl (fun w' hw' => by obtain ⟨q0, q1, q2⟩ := hw'; go_simp) S0 ?_
  simp only [Act.put, List.setIfInBounds_toArray, List.set_cons_zero, List.set_cons_succ]
  refine u_take (i := 1) (v := (.pointer (some ⟨pb, 0, none⟩))) 29 rfl rfl (by kernel_rfl) (by kernel_rfl) (by kernel_rfl) (by kernel_rfl) rfl (fun w' hw' => by obtain ⟨q0, q1, q2⟩ := hw'; go_simp) S0 ?_
  simp only [Act.put, List.setIfInBounds_toArray, List.set_cons_zero, List.set_cons_succ]
  refine u_take (i := 2) (v := (.pointer (some ⟨pb, 4, none⟩))) 30 rfl rfl (by kernel_rfl) (by kernel_rfl) (by kernel_rfl) (by kernel_rfl) rfl (fun w' hw' => by obtain ⟨q0, q1, q2⟩ := hw'; go_simp) S0 ?_
  simp only [Act.put, List.setIfInBounds_toArray, List.set_cons_zero, List.set_cons_succ]
  refine u_take (i := 3) (v := (.map (some mb))) 31 rfl rfl (by kernel_rfl) (by kernel_rfl) (by kernel_rfl) (by kernel_rfl) rfl (fun w' hw' => by obtain ⟨q0, q1, q2⟩ := hw'; go_simp) S0 ?_
  simp only [Act.put, List.setIfInBounds_toArray, List.set_cons_zero, List.set_cons_succ]
  refine u_take (i := 4) (v := (.pointer (some ⟨w.heap.size, 0, none⟩))) 32 rfl rfl (by kernel_rfl) (by kernel_rfl) (by kernel_rfl) (by kernel_rfl) rfl (fun w' hw' => by obtain ⟨q0, q1, q2⟩ := hw'; go_simp) S0 ?_
  simp only [Act.put, List.setIfInBounds_toArray, List.set_cons_zero, List.set_cons_succ]
  refine u_take (i := 5) (v := (.int .u64 ad)) 33 rfl rfl (by kernel_rfl) (by kernel_rfl) (by kernel_rfl) (by kernel_rfl) rfl (fun w' hw' => by obtain ⟨q0, q1, q2⟩ := hw'; go_simp) S0 ?_
  simp only [Act.put, List.setIfInBounds_toArray, List.set_cons_zero, List.set_cons_succ]
  refine u_take (i := 6) (v := (.slice (some ⟨g, 0, none⟩) l.length sc)) 34 rfl rfl (by kernel_rfl) (by kernel_rfl) (by kernel_rfl) (by kernel_rfl) rfl (fun w' hw' => by obtain ⟨q0, q1, q2⟩ := hw'; go_simp) S0 ?_
  simp only [Act.put, List.setIfInBounds_toArray, List.set_cons_zero, List.set_cons_succ]
  refine u_take (i := 7) (v := (.int .i64 n)) 35 rfl rfl (by kernel_rfl) (by kernel_rfl) (by kernel_rfl) (by kernel_rfl) rfl (fun w' hw' => by obtain ⟨q0, q1, q2⟩ := hw'; go_simp) S0 ?_
  simp only [Act.put, List.setIfInBounds_toArray, List.set_cons_zero, List.set_cons_succ]
  refine u_take (i := 8) (v := (.pointer (some ⟨w.heap.size, 1, none⟩))) 36 rfl rfl (by kernel_rfl) (by kernel_rfl) (by kernel_rfl) (by kernel_rfl) rfl (fun w' hw' => by obtain ⟨q0, q1, q2⟩ := hw'; go_simp) S0 ?_
  simp only [Act.put, List.setIfInBounds_toArray, List.set_cons_zero, List.set_cons_succ]
  refine u_take (i := 9) (v := (.int .u64 x)) 37 rfl rfl (by kernel_rfl) (by kernel_rfl) (by kernel_rfl) (by kernel_rfl) rfl (fun w' hw' => by obtain ⟨q0, q1, q2⟩ := hw'; go_simp) S0 ?_
  simp only [Act.put, List.setIfInBounds_toArray, List.set_cons_zero, List.set_cons_succ]
  refine u_take (i := 10) (v := (.agg #[.int .i64 n, .int .u64 x])) 38 rfl rfl (by kernel_rfl) (by kernel_rfl) (by kernel_rfl) (by kernel_rfl) rfl (fun w' hw' => by obtain ⟨q0, q1, q2⟩ := hw'; go_simp) S0 ?_
  simp only [Act.put, List.setIfInBounds_toArray, List.set_cons_zero, List.set_cons_succ]
  refine u_val (i := 11) (v := (.slice (some ⟨(w.alloc (.cells #[.int .u64 ad, .int .u64 x, .bool false] 60)).heap.size, 0, none⟩) 1 1)) (w' := (w.alloc (.cells #[.int .u64 ad, .int .u64 x, .bool false] 60)).drew.alloc (.cells #[.int .i64 n, .int .u64 x] 104)) (some 39) (by kernel_rfl) rfl rfl rfl (by go_simp) S1 ?_
  simp only [Act.put, List.setIfInBounds_toArray, List.set_cons_zero, List.set_cons_succ]
  refine u_val (i := 12) (v := (.slice ta tn tc)) (w' := w3) (some 40) (by kernel_rfl) rfl rfl rfl (run_append_op rfl rfl rfl HA.out) S2 ?_
  simp only [Act.put, List.setIfInBounds_toArray, List.set_cons_zero, List.set_cons_succ]
  refine u_last (w' := w4) (by kernel_rfl) rfl rfl rfl (by go_simp) (by kernel_rfl) ?_
  go_wp2_with fail
  go_end0
  exact HF.out
/-- write: a word stands in its cell from a number on. -/
theorem write_any (pb mb base : Nat) (f : Int → Option Sl) (S : Crs2) (n m ad x : Int) (v : Value) (F : List Int) (hn : 0 < n) (h0 : 0 ≤ ad) (h1 : ad < F.length) (hcr : Cr (crs F S ad) m) (hll : (crs F S ad).length ≤ 1100000) (w : World) (c0 : w.cell? ⟨pb, 0, none⟩ = some v) (c4 : w.cell? ⟨pb, 4, none⟩ = some (.map (some mb))) (hpb : pb < base) (hbs : base ≤ w.heap.size) (hF : WsAt w v F) (h : StAt w mb base f S) :
    Calls Tryd.prog 30 #[.pointer (some ⟨pb, 0, none⟩), .int .i64 n, .agg #[.int .u64 ad, .int .u64 x, .bool false]] w (WrP F S n ad x mb base f w) := by
  cases hf : f ad with
  | none => exact write_new pb mb base f S n ad x v F hn h0 h1 w c0 c4 hF h hf hbs
  | some s =>
    have hS : S ad = some (crs F S ad) := by
      have := h.dom ad
      rw [hf] at this
      unfold crs
      cases q : S ad with
      | none => rw [q] at this; simp at this
      | some l => rfl
    have hne := hcr.ne
    by_cases hl : ((crs F S ad)[(crs F S ad).length - 1]'(by omega)).1 = n
    · exact write_same pb mb base f S n ad x F s (crs F S ad) ((crs F S ad).length - 1) (by omega) hll w c4 hpb hbs h hf hS hl
    · exact write_more pb mb base f S n ad x F s (crs F S ad) ((crs F S ad).length - 1) (by omega) hll w c4 hpb hbs h hf hS hl
end Go.Proofs.YthgkbmfnidehbaaDoor
