/-
  No statement of the seat is proved here. (Several texts in one: OpJ, LayG, OpK.)
-/
import Derived.Test.YtjmmjkoloioddaaDoorM11OpG
import Derived.Test.YtjmmjkoloioddaaDoorChecked
import Derived.Shelf.SlSortCmp.NoneTotal
import Derived.Sort.OwnSortedInts

/- A walk of write (layer 16). No statement of the seat is proved here. -/
namespace Go.Proofs.YtjmmjkoloioddaaDoor
open Go.RowKit Go.Shelf

/-- A course is another one now. -/
theorem StAt.upd {w w' : World} {mb base : Nat} {f : Int → Option Sl} {S : Crs2} (h : StAt w mb base f S) (ad : Int) (s' : Sl) (l' : List (Int × Int)) (k : Keeps (fun q => (∃ s, f ad = some s ∧ s.v.ownBlock = some q) ∨ q = mb) w w') (hm : MapS w' mb (fun y => if y = ad then some s' else f y)) (hr : OwnR stC 2 121 w' base s'.v l') (hq : ∀ q, s'.v.ownBlock = some q → (∃ s, f ad = some s ∧ s.v.ownBlock = some q) ∨ w.heap.size ≤ q) :
    StAt w' mb base (fun y => if y = ad then some s' else f y) (fun y => if y = ad then some l' else S y) := by
  refine ⟨hm, fun a => ?_, fun a s hs => ?_, fun a b s t q ha hb hqs hqt => ?_, h.lo⟩
  · split
    · rfl
    · exact h.dom a
  · by_cases e : a = ad
    · rw [if_pos e] at hs ⊢
      cases hs; exact hr
    · rw [if_neg e] at hs ⊢
      refine (h.row a s hs).keeps k fun g hg => ?_
      have hb := own_block (h.row a s hs).own hg
      rintro (⟨t, ht, hqt⟩ | rfl)
      · exact e (h.ap a ad s t g hs ht hg hqt)
      · have := h.lo; omega
  · by_cases e1 : a = ad <;> by_cases e2 : b = ad
    · rw [e1, e2]
    · rw [if_pos e1] at ha
      rw [if_neg e2] at hb
      cases ha
      rcases hq q hqs with ⟨t', ht', hq'⟩ | hge
      · exact e1.trans (h.ap b ad t t' q hb ht' hqt hq').symm
      · have := own_block (h.row b t hb).own hqt; omega
    · rw [if_neg e1] at ha
      rw [if_pos e2] at hb
      cases hb
      rcases hq q hqt with ⟨t', ht', hq'⟩ | hge
      · exact (h.ap a ad s t' q ha ht' hqs hq').trans e2.symm
      · have := own_block (h.row a s ha).own hqs; omega
    · rw [if_neg e1] at ha
      rw [if_neg e2] at hb
      exact h.ap a b s t q ha hb hqs hqt
theorem putS_eq (F : List Int) (S : Crs2) (n ad x : Int) : putS F S n (ad, x) = fun y => if y = ad then some (insC (crs F S ad) n x) else S y := rfl
/-- What write leaves. -/
def WrP (F : List Int) (S : Crs2) (n ad x : Int) (mb base : Nat) (_f : Int → Option Sl) (w : World) (ex : Ending) (w' : World) : Prop := ex = .returned (.tuple #[]) ∧ (∃ f', StAt w' mb base f' (putS F S n (ad, x))) ∧ Keeps (fun q => q = mb ∨ base ≤ q) w w'
set_option maxRecDepth 100000 in
set_option maxHeartbeats 8000000 in
theorem write_new (pb mb base : Nat) (f : Int → Option Sl) (S : Crs2) (n ad x : Int) (v : Value) (F : List Int) (hn : 0 < n) (h0 : 0 ≤ ad) (h1 : ad < F.length) (w : World) (c0 : w.cell? ⟨pb, 0, none⟩ = some v) (c4 : w.cell? ⟨pb, 4, none⟩ = some (.map (some mb))) (hF : WsAt w v F) (h : StAt w mb base f S) (hf : f ad = none) (hb : base ≤ w.heap.size) :
    Calls Tryd.prog 47 #[.pointer (some ⟨pb, 0, none⟩), .int .i64 n, .agg #[.int .u64 ad, .int .u64 x, .bool false]] w (WrP F S n ad x mb base f w) := by
  have hS : S ad = none := by have := h.dom ad; rw [hf] at this; simpa using this.symm
  have hcr : insC (crs F S ad) n x = [(0, wdAt F ad), (n, x)] := by
    have e : crs F S ad = [(0, wdAt F ad)] := by unfold crs; rw [hS]; rfl
    rw [e]; unfold insC
    rw [if_neg (by simp; omega)]; rfl
  have kA := (Keeps.refl (fun _ => False) w).alloc (.cells #[.int .u64 ad, .int .u64 x, .bool false] 91)
  have bA := (MapKept.heap_alloc w (.cells #[.int .u64 ad, .int .u64 x, .bool false] 91)).1
  obtain ⟨A, hA⟩ : ∃ A, A = w.alloc (.cells #[.int .u64 ad, .int .u64 x, .bool false] 91) := ⟨_, rfl⟩
  have hsA : A.heap.size = w.heap.size + 1 := by rw [hA]; simp
  rw [← hA] at kA bA
  have CO := course_new pb mb base f S ad v F h0 h1 A (kA.cellB (fun f => f) c0) (kA.cellB (fun f => f) c4) (hF.keeps wC_ne kA) (h.keeps kA (fun f => f) (fun _ _ _ f => f)) hf
  have kB := (Keeps.refl (fun _ => False) A).alloc (.cells #[.int .i64 0, .int .u64 (wdAt F ad)] 121)
  have bB := (MapKept.heap_alloc A (.cells #[.int .i64 0, .int .u64 (wdAt F ad)] 121)).1
  have K2 := kA.trans kB
  have hsB : (A.alloc (.cells #[.int .i64 0, .int .u64 (wdAt F ad)] 121)).heap.size = A.heap.size + 1 := by simp
  generalize hd : wdAt F ad = d at *
  obtain ⟨B, hB⟩ : ∃ B, B = A.alloc (.cells #[.int .i64 0, .int .u64 d] 121) := ⟨_, rfl⟩
  rw [← hB] at CO kB bB K2 hsB
  have hB2 : B = A.alloc (.cells #[.int .i64 0, .int .u64 d] 121) := hB
  have oB : OwnR stC 2 121 B.drew A.heap.size (.slice (some ⟨A.heap.size, 0, none⟩) 1 1) [(0, d)] := OwnR.ofBlock (L := [((0 : Int), d)]) st_len (w := B.drew) bB rfl (Nat.le_refl _) (by simp [maxLen])
  obtain ⟨v', w3, r1, r2, r3⟩ := oB.push st_len st_one (by decide) Tryd.underlying119 info_st rfl (by decide) (ty := 119) (n, x) (cs := #[.int .i64 n, .int .u64 x]) rfl (by simp)
  obtain ⟨s', hv', -⟩ := sl_of r2
  have K3 : Keeps (fun _ => False) w w3 := by
    refine K2.drew.young (S := fun q => q = A.heap.size) ((r3.keeps.mono fun q _ hq => ?_)) (fun q hq => by omega)
    simp only [Value.ownBlock, Option.some.injEq] at hq
    exact hq.symm
  have h3 := h.keeps K3 (fun f => f) (fun _ _ _ f => f)
  obtain ⟨w4, m1, m2, m3⟩ := h3.map.put ad s'
  have hvo : ∀ q, s'.v.ownBlock = some q → A.heap.size ≤ q := fun q hq => by rw [← hv'] at hq; exact (own_block r2.own hq).2
  have hmo : ∀ q, s'.v.ownBlock = some q → q ≠ mb := fun q hq e => by have := hvo q hq; have := h.lo; have := h.map.lt; omega
  have r4 := (r2.keeps m3 (fun q hq e => hmo q (by rw [← hv']; exact hq) e)).low (b' := base) (by omega)
  rw [hv'] at r4 r1
  have K4 : Keeps (fun q => (∃ s, f ad = some s ∧ s.v.ownBlock = some q) ∨ q = mb) w w4 := (K3.mono fun _ _ f => f.elim).trans (m3.mono fun q _ e => .inr e)
  have HF : Hid (WrP F S n ad x mb base f w (.returned (.tuple #[])) w4) := by
    refine ⟨rfl, ⟨fun y => if y = ad then some s' else f y, ?_⟩, K4.mono fun q _ hq => ?_⟩
    · rw [putS_eq, hcr]
      exact h.upd ad s' _ K4 m2 r4 (fun q hq => .inr (by have := hvo q hq; omega))
    · rcases hq with ⟨s, hs, _⟩ | e
      · rw [hf] at hs; cases hs
      · exact .inl e
  have S0 : B.drew.cell? ⟨pb, 4, none⟩ = some (.map (some mb)) ∧ B.drew.cell? ⟨w.heap.size, 0, none⟩ = some (.int .u64 ad) ∧ B.drew.cell? ⟨w.heap.size, 1, none⟩ = some (.int .u64 x) := ⟨K2.cellB (fun f => f) c4, by rw [cell_of_block (w := B.drew) ((kB.block _ (lt_of_block bA) (fun f => f)).trans bA)]; rfl, by rw [cell_of_block (w := B.drew) ((kB.block _ (lt_of_block bA) (fun f => f)).trans bA)]; rfl⟩
  have kC := (Keeps.refl (fun _ => False) B.drew).alloc (.cells #[.int .i64 n, .int .u64 x] 121)
  have S1 : (B.drew.alloc (.cells #[.int .i64 n, .int .u64 x] 121)).cell? ⟨pb, 4, none⟩ = some (.map (some mb)) ∧ (B.drew.alloc (.cells #[.int .i64 n, .int .u64 x] 121)).cell? ⟨w.heap.size, 0, none⟩ = some (.int .u64 ad) ∧ (B.drew.alloc (.cells #[.int .i64 n, .int .u64 x] 121)).cell? ⟨w.heap.size, 1, none⟩ = some (.int .u64 x) := ⟨kC.cellB (fun f => f) S0.1, kC.cellB (fun f => f) S0.2.1, kC.cellB (fun f => f) S0.2.2⟩
  have hnb : ∀ b : Nat, b < A.heap.size → ¬ (Value.slice (some ⟨A.heap.size, 0, none⟩) 1 1).ownBlock = some b := fun b hb hq => by simp only [Value.ownBlock, Option.some.injEq] at hq; omega
  have l4 : pb < w.heap.size := World.block_lt_of_cell? _ _ c4
  have S2 : w3.cell? ⟨pb, 4, none⟩ = some (.map (some mb)) ∧ w3.cell? ⟨w.heap.size, 0, none⟩ = some (.int .u64 ad) ∧ w3.cell? ⟨w.heap.size, 1, none⟩ = some (.int .u64 x) := ⟨r3.keeps.cellB (hnb pb (by omega)) S0.1, r3.keeps.cellB (hnb w.heap.size (by omega)) S0.2.1, r3.keeps.cellB (hnb w.heap.size (by omega)) S0.2.2⟩
  have cB0 : B.cell? ⟨A.heap.size, 0, none⟩ = some (.int .i64 0) := by rw [cell_of_block bB]; rfl
  have hnz : ((0 : Int) == n) = false := by rw [beq_eq_false_iff_ne]; omega
  obtain ⟨sa, sn, sc⟩ := s'
  dsimp only [Sl.v] at r1 m1
  have HA : Hid (_ = _) := r1
  have hBB : B.drew.heap.size = B.heap.size := rfl
  rw [hBB] at HA
  obtain ⟨gB, hgB⟩ : ∃ gB, gB = A.heap.size := ⟨_, rfl⟩
  rw [← hgB] at CO HA cB0
  have HG : Hid (gB = A.heap.size) := hgB
  clear hgB r1 r2 r3 r4 K3 K4 h3 m2 m3 hvo hmo oB bB kB K2 bA kA hsB hsA hB hB2 hv' hBB c0 c4 hF h hf hcr hS hb kC hnb l4
  clear h0 h1 hd
  have hA2 : Hid (A = _) := hA
  subst hA
  go_enter Tryd.func47, Tryd.ntmps47
  go_wp2_with fail
  refine CO.mono ?_
  rintro ex w1 ⟨rfl, hw1⟩
  subst w1
  clear CO
  go_wp2_with fail
  refine wp_until (S := (fun W : World => W.cell? ⟨pb, 4, none⟩ = some (.map (some mb)) ∧ W.cell? ⟨w.heap.size, 0, none⟩ = some (.int .u64 ad) ∧ W.cell? ⟨w.heap.size, 1, none⟩ = some (.int .u64 x))) 13 14 rfl hmxp ?_
  simp only [Array.replicate_succ, Array.replicate_zero, List.push_toArray, List.nil_append, List.cons_append]
  refine u_take (i := 0) (v := (.pointer (some ⟨pb, 0, none⟩))) 28 rfl rfl (by kernel_rfl) (by kernel_rfl) (by kernel_rfl) (by kernel_rfl) rfl (fun w' hw' => by obtain ⟨q0, q1, q2⟩ := hw'; go_simp) S0 ?_
  simp only [Act.put, List.setIfInBounds_toArray, List.set_cons_zero, List.set_cons_succ]
  refine u_take (i := 1) (v := (.pointer (some ⟨pb, 0, none⟩))) 29 rfl rfl (by kernel_rfl) (by kernel_rfl) (by kernel_rfl) (by kernel_rfl) rfl (fun w' hw' => by obtain ⟨q0, q1, q2⟩ := hw'; go_simp) S0 ?_
  simp only [Act.put, List.setIfInBounds_toArray, List.set_cons_zero, List.set_cons_succ]
  refine u_take (i := 2) (v := (.pointer (some ⟨pb, 4, none⟩))) 30 rfl rfl (by kernel_rfl) (by kernel_rfl) (by kernel_rfl) (by kernel_rfl) rfl (fun w' hw' => by obtain ⟨q0, q1, q2⟩ := hw'; go_simp) S0 ?_
  simp only [Act.put, List.setIfInBounds_toArray, List.set_cons_zero, List.set_cons_succ]
  refine u_take (i := 3) (v := (.map (some mb))) 31 rfl rfl (by kernel_rfl) (by kernel_rfl) (by kernel_rfl) (by kernel_rfl) rfl (fun w' hw' => by obtain ⟨q0, q1, q2⟩ := hw'; go_simp) S0 ?_
  simp only [Act.put, List.setIfInBounds_toArray, List.set_cons_zero, List.set_cons_succ]
  refine u_take (i := 4) (v := (.pointer (some ⟨w.heap.size, 0, none⟩))) 32 rfl rfl (by kernel_rfl) (by kernel_rfl) (by kernel_rfl) (by kernel_rfl) rfl (fun w' hw' => by obtain ⟨q0, q1, q2⟩ := hw'; go_simp) S0 ?_
  simp only [Act.put, List.setIfInBounds_toArray, List.set_cons_zero, List.set_cons_succ]
  refine u_take (i := 5) (v := (.int .u64 ad)) 33 rfl rfl (by kernel_rfl) (by kernel_rfl) (by kernel_rfl) (by kernel_rfl) rfl (fun w' hw' => by obtain ⟨q0, q1, q2⟩ := hw'; go_simp) S0 ?_
  simp only [Act.put, List.setIfInBounds_toArray, List.set_cons_zero, List.set_cons_succ]
  refine u_take (i := 6) (v := (.slice (some ⟨gB, 0, none⟩) 1 1)) 34 rfl rfl (by kernel_rfl) (by kernel_rfl) (by kernel_rfl) (by kernel_rfl) rfl (fun w' hw' => by obtain ⟨q0, q1, q2⟩ := hw'; go_simp) S0 ?_
  simp only [Act.put, List.setIfInBounds_toArray, List.set_cons_zero, List.set_cons_succ]
  refine u_take (i := 7) (v := (.int .i64 n)) 35 rfl rfl (by kernel_rfl) (by kernel_rfl) (by kernel_rfl) (by kernel_rfl) rfl (fun w' hw' => by obtain ⟨q0, q1, q2⟩ := hw'; go_simp) S0 ?_
  simp only [Act.put, List.setIfInBounds_toArray, List.set_cons_zero, List.set_cons_succ]
  refine u_take (i := 8) (v := (.pointer (some ⟨w.heap.size, 1, none⟩))) 36 rfl rfl (by kernel_rfl) (by kernel_rfl) (by kernel_rfl) (by kernel_rfl) rfl (fun w' hw' => by obtain ⟨q0, q1, q2⟩ := hw'; go_simp) S0 ?_
  simp only [Act.put, List.setIfInBounds_toArray, List.set_cons_zero, List.set_cons_succ]
  refine u_take (i := 9) (v := (.int .u64 x)) 37 rfl rfl (by kernel_rfl) (by kernel_rfl) (by kernel_rfl) (by kernel_rfl) rfl (fun w' hw' => by obtain ⟨q0, q1, q2⟩ := hw'; go_simp) S0 ?_
  simp only [Act.put, List.setIfInBounds_toArray, List.set_cons_zero, List.set_cons_succ]
  refine u_take (i := 10) (v := (.agg #[.int .i64 n, .int .u64 x])) 38 rfl rfl (by kernel_rfl) (by kernel_rfl) (by kernel_rfl) (by kernel_rfl) rfl (fun w' hw' => by obtain ⟨q0, q1, q2⟩ := hw'; go_simp) S0 ?_
  simp only [Act.put, List.setIfInBounds_toArray, List.set_cons_zero, List.set_cons_succ]
  refine u_val (i := 11) (v := (.slice (some ⟨B.heap.size, 0, none⟩) 1 1)) (w' := B.drew.alloc (.cells #[.int .i64 n, .int .u64 x] 121)) (some 39) (by kernel_rfl) rfl rfl rfl (by go_simp) S1 ?_
  simp only [Act.put, List.setIfInBounds_toArray, List.set_cons_zero, List.set_cons_succ]
  refine u_val (i := 12) (v := (.slice sa sn sc)) (w' := w3) (some 40) (by kernel_rfl) rfl rfl rfl (run_append_op rfl rfl rfl HA.out) S2 ?_
  simp only [Act.put, List.setIfInBounds_toArray, List.set_cons_zero, List.set_cons_succ]
  refine u_last (w' := w4) (by kernel_rfl) rfl rfl rfl (by go_simp) (by kernel_rfl) ?_
  go_wp2_with fail
  go_end0
  exact HF.out
theorem insC_same {l : List (Int × Int)} {n x : Int} (hne : 0 < l.length) (hl : (l[l.length - 1]'(by omega)).1 = n) : insC l n x = l.set (l.length - 1) (n, x) := by
  obtain ⟨l', p, rfl⟩ : ∃ l' p, l = l' ++ [p] := ⟨l.dropLast, l.getLast (by intro e; rw [e] at hne; exact absurd hne (by simp)), (List.dropLast_concat_getLast _).symm⟩
  simp at hl
  unfold insC
  rw [List.getLast?_concat, List.dropLast_concat]
  simp [hl]
theorem insC_more {l : List (Int × Int)} {n x : Int} (hne : 0 < l.length) (hl : (l[l.length - 1]'(by omega)).1 ≠ n) : insC l n x = l ++ [(n, x)] := by
  obtain ⟨l', p, rfl⟩ : ∃ l' p, l = l' ++ [p] := ⟨l.dropLast, l.getLast (by intro e; rw [e] at hne; exact absurd hne (by simp)), (List.dropLast_concat_getLast _).symm⟩
  simp at hl
  unfold insC
  rw [List.getLast?_concat]
  simp [hl]
set_option maxRecDepth 100000 in
set_option maxHeartbeats 8000000 in
theorem write_same (pb mb base : Nat) (f : Int → Option Sl) (S : Crs2) (n ad x : Int) (F : List Int) (s : Sl) (l : List (Int × Int)) (m : Nat) (hm : l.length = m + 1) (hll : l.length ≤ 1100000) (w : World) (c4 : w.cell? ⟨pb, 4, none⟩ = some (.map (some mb))) (_hpb : pb < base) (_hbs : base ≤ w.heap.size) (h : StAt w mb base f S) (hf : f ad = some s) (hS : S ad = some l) (hl : (l[l.length - 1]'(by omega)).1 = n) :
    Calls Tryd.prog 47 #[.pointer (some ⟨pb, 0, none⟩), .int .i64 n, .agg #[.int .u64 ad, .int .u64 x, .bool false]] w (WrP F S n ad x mb base f w) := by
  have hcr : crs F S ad = l := by unfold crs; rw [hS]; rfl
  have ho := h.row ad s hf
  rw [hS, Option.getD_some] at ho
  obtain ⟨sa, sn, sc⟩ := s
  dsimp only [Sl.v] at ho
  obtain ⟨g, cap, cur, hv, hbg, hgb, hgs⟩ := ho.at (by omega)
  injection hv with e1 e2 e3
  subst e1 e2 e3
  have hown : ∀ q, (∃ s, f ad = some s ∧ s.v.ownBlock = some q) ↔ q = g := fun q => by
    rw [hf]
    simp only [Option.some.injEq]
    exact ⟨fun ⟨s, e, hq⟩ => by subst e; simp only [Value.ownBlock, Option.some.injEq] at hq; exact hq.symm, fun e => ⟨_, rfl, by rw [e]; rfl⟩⟩
  have kA := (Keeps.refl (fun _ => False) w).alloc (.cells #[.int .u64 ad, .int .u64 x, .bool false] 91)
  have bA := (MapKept.heap_alloc w (.cells #[.int .u64 ad, .int .u64 x, .bool false] 91)).1
  have hg1 := lt_of_block hgb
  have hsA : (w.alloc (.cells #[.int .u64 ad, .int .u64 x, .bool false] 91)).heap.size = w.heap.size + 1 := by simp
  have CO := course_old pb mb base f S ad ⟨some ⟨g, 0, none⟩, l.length, sc⟩ _ (kA.cellB (fun f => f) c4) (h.keeps kA (fun f => f) (fun _ _ _ f => f)) hf
  dsimp only [Sl.v] at CO
  have oA := ho.keeps kA (fun _ _ f => f)
  obtain ⟨g', off', hgg, hcc⟩ := (oA.els st_len).at m (by omega)
  have hoo := (oA.els st_len)
  have hmg : g = g' ∧ off' = 0 := by
    rcases oA.own.2 with ⟨q, _⟩ | ⟨g3, cap3, cur3, q1, _⟩
    · cases q
    · simp only [Option.some.injEq, Addr.mk.injEq, and_true] at hgg
      exact ⟨hgg.1, hgg.2.symm⟩
  obtain ⟨rfl, rfl⟩ := hmg
  have hlm : l[l.length - 1]'(by omega) = l[m]'(by omega) := by congr 1; omega
  rw [hlm] at hl
  have y0 := hcc 0 _ rfl
  have y1 := hcc 1 _ rfl
  simp only [Nat.zero_add, Nat.add_zero] at y0 y1
  rw [hl] at y0
  have r1 := oA.set st_len m 1 (n, x) (.int .u64 x) (by omega) (by decide) (by rw [← hl]; rfl)
  have hin : insC l n x = l.set m (n, x) := by rw [insC_same (by omega) (by rw [hlm]; exact hl)]; congr 1; omega
  have fz : (w.alloc (.cells #[.int .u64 ad, .int .u64 x, .bool false] 91)).frozen? ⟨g, m * 2 + 1, none⟩ = false := frozen_of_block ((kA.block g hg1 (fun f => f)).trans hgb) _
  have kS := (Keeps.refl (fun q => q = g) (w.alloc (.cells #[.int .u64 ad, .int .u64 x, .bool false] 91))).setCell (p := ⟨g, m * 2 + 1, none⟩) (.inr rfl) (.int .u64 x)
  have K4 : Keeps (fun q => (∃ s, f ad = some s ∧ s.v.ownBlock = some q) ∨ q = mb) w ((w.alloc (.cells #[.int .u64 ad, .int .u64 x, .bool false] 91)).setCell ⟨g, m * 2 + 1, none⟩ (.int .u64 x)) := (kA.mono fun _ _ f => f.elim).trans (kS.mono fun q _ e => .inl ((hown q).2 e))
  have hmb : ¬ mb = g := by have := h.lo; omega
  have m2 := (h.map.keeps kA (fun f => f)).keeps kS hmb
  have HF : Hid (WrP F S n ad x mb base f w (.returned (.tuple #[])) ((w.alloc (.cells #[.int .u64 ad, .int .u64 x, .bool false] 91)).setCell ⟨g, m * 2 + 1, none⟩ (.int .u64 x))) := by
    refine ⟨rfl, ⟨fun y => if y = ad then some ⟨some ⟨g, 0, none⟩, l.length, sc⟩ else f y, ?_⟩, K4.mono fun q _ hq => ?_⟩
    · rw [putS_eq, hcr, hin]
      refine h.upd ad _ _ K4 ?_ r1 (fun q hq => .inl ((hown q).2 ?_))
      · have e : (fun y => if y = ad then some (⟨some ⟨g, 0, none⟩, l.length, sc⟩ : Sl) else f y) = f := by
          funext y
          split
          · rename_i q; rw [q, hf]
          · rfl
        rw [e]; exact m2
      · simp only [Value.ownBlock, Option.some.injEq] at hq; exact hq.symm
    · rcases hq with q | e
      · right; rw [(hown _).1 q]; exact hbg
      · exact .inl e
  have z1 : (w.alloc (.cells #[.int .u64 ad, .int .u64 x, .bool false] 91)).cell? ⟨w.heap.size, 1, none⟩ = some (.int .u64 x) := by rw [cell_of_block bA]; rfl
  have hmN : ((l.length : Int) - 1) = (m : Int) := by omega
  have w1 : IntKind.i64.wrap ((l.length : Int) - 1) = (m : Int) := by rw [hmN, IntKind.wrap_i64]; omega
  have hm0 : (0 : Int) ≤ (m : Int) := by omega
  have hm1 : (m : Int) < (l.length : Int) := by omega
  obtain ⟨y2, hy2⟩ : ∃ y2, y2 = (l[m]'(by omega)).2 := ⟨_, rfl⟩
  rw [← hy2] at y1
  clear hy2
  clear r1 hoo hcc hgg K4 kS m2 hin hcr hlm hl oA ho h hf hS hown kA bA hsA hgb hgs c4 hm hmN
  go_enter Tryd.func47, Tryd.ntmps47
  go_wp2_with fail
  refine CO.mono ?_
  rintro ex wq ⟨rfl, hwq⟩
  subst wq
  clear CO
  generalize w.alloc (.cells #[.int .u64 ad, .int .u64 x, .bool false] 91) = A at *
  go_wp2_with fail
  go_end0
  exact HF.out
set_option maxRecDepth 100000 in
set_option maxHeartbeats 8000000 in
theorem write_more (pb mb base : Nat) (f : Int → Option Sl) (S : Crs2) (n ad x : Int) (F : List Int) (s : Sl) (l : List (Int × Int)) (m : Nat) (hm : l.length = m + 1) (hll : l.length ≤ 1100000) (w : World) (c4 : w.cell? ⟨pb, 4, none⟩ = some (.map (some mb))) (hpb : pb < base) (_hbs : base ≤ w.heap.size) (h : StAt w mb base f S) (hf : f ad = some s) (hS : S ad = some l) (hl : (l[l.length - 1]'(by omega)).1 ≠ n) :
    Calls Tryd.prog 47 #[.pointer (some ⟨pb, 0, none⟩), .int .i64 n, .agg #[.int .u64 ad, .int .u64 x, .bool false]] w (WrP F S n ad x mb base f w) := by
  have hcr : crs F S ad = l := by unfold crs; rw [hS]; rfl
  have ho := h.row ad s hf
  rw [hS, Option.getD_some] at ho
  obtain ⟨sa, sn, sc⟩ := s
  dsimp only [Sl.v] at ho
  obtain ⟨g, cap, cur, hv, hbg, hgb, hgs⟩ := ho.at (by omega)
  injection hv with e1 e2 e3
  subst e1 e2 e3
  have hown : ∀ q, (∃ s, f ad = some s ∧ s.v.ownBlock = some q) ↔ q = g := fun q => by
    rw [hf]
    simp only [Option.some.injEq]
    exact ⟨fun ⟨s, e, hq⟩ => by subst e; simp only [Value.ownBlock, Option.some.injEq] at hq; exact hq.symm, fun e => ⟨_, rfl, by rw [e]; rfl⟩⟩
  have kA := (Keeps.refl (fun _ => False) w).alloc (.cells #[.int .u64 ad, .int .u64 x, .bool false] 91)
  have bA := (MapKept.heap_alloc w (.cells #[.int .u64 ad, .int .u64 x, .bool false] 91)).1
  have hg1 := lt_of_block hgb
  have hsA : (w.alloc (.cells #[.int .u64 ad, .int .u64 x, .bool false] 91)).heap.size = w.heap.size + 1 := by simp
  have CO := course_old pb mb base f S ad ⟨some ⟨g, 0, none⟩, l.length, sc⟩ _ (kA.cellB (fun f => f) c4) (h.keeps kA (fun f => f) (fun _ _ _ f => f)) hf
  dsimp only [Sl.v] at CO
  have oA := ho.keeps kA (fun _ _ f => f)
  obtain ⟨g', off', hgg, hcc⟩ := (oA.els st_len).at m (by omega)
  have hoo := (oA.els st_len)
  have hmg : g = g' ∧ off' = 0 := by
    rcases oA.own.2 with ⟨q, _⟩ | ⟨g3, cap3, cur3, q1, _⟩
    · cases q
    · simp only [Option.some.injEq, Addr.mk.injEq, and_true] at hgg
      exact ⟨hgg.1, hgg.2.symm⟩
  obtain ⟨rfl, rfl⟩ := hmg
  have hlm : l[l.length - 1]'(by omega) = l[m]'(by omega) := by congr 1; omega
  rw [hlm] at hl
  have y0 := hcc 0 _ rfl
  have y1 := hcc 1 _ rfl
  simp only [Nat.zero_add, Nat.add_zero] at y0 y1
  obtain ⟨A, hA⟩ : ∃ A, A = w.alloc (.cells #[.int .u64 ad, .int .u64 x, .bool false] 91) := ⟨_, rfl⟩
  rw [← hA] at kA bA hsA CO oA y0
  have hin : insC l n x = l ++ [(n, x)] := insC_more (by omega) (by rw [hlm]; exact hl)
  have hln : ((l[m]'(by omega)).1 == n) = false := by rw [beq_eq_false_iff_ne]; exact hl
  generalize (l[m]'(by omega)).1 = sn at y0 hln
  obtain ⟨v', w3, r1, r2, r3⟩ := (oA.keeps (w' := A.drew) (Keeps.refl (fun _ => False) A).drew (fun _ _ f => f)).push st_len st_one (by decide) Tryd.underlying119 info_st rfl (by decide) (ty := 119) (n, x) (cs := #[.int .i64 n, .int .u64 x]) rfl (by omega)
  obtain ⟨s', hv', -⟩ := sl_of r2
  have hvg : ∀ q, (Value.slice (some ⟨g, 0, none⟩) l.length sc).ownBlock = some q → q = g := fun q hq => by simp only [Value.ownBlock, Option.some.injEq] at hq; exact hq.symm
  have K3 : Keeps (fun q => q = g) w w3 := (kA.drew.mono fun _ _ f => f.elim).trans (r3.keeps.mono fun q _ hq => hvg q hq)
  have hmb : ¬ mb = g := by have := h.lo; omega
  obtain ⟨w4, m1, m2, m3⟩ := (h.map.keeps K3 hmb).put ad s'
  have hvo : ∀ q, s'.v.ownBlock = some q → q = g ∨ w.heap.size ≤ q := fun q hq => by
    rw [← hv'] at hq
    rcases r3.own with e | e
    · rw [e] at hq; exact .inl (hvg q hq)
    · right; have h1 := e q hq; have : A.drew.heap.size = A.heap.size := rfl; omega
  have r4 := r2.keeps m3 (fun q hq e => by
    rw [hv'] at hq
    have := (own_block r2.own (by rw [hv']; exact hq)).2
    have := h.lo; omega)
  rw [hv'] at r4 r1
  have K4 : Keeps (fun q => (∃ s, f ad = some s ∧ s.v.ownBlock = some q) ∨ q = mb) w w4 := (K3.mono fun q _ e => .inl ((hown q).2 e)).trans (m3.mono fun q _ e => .inr e)
  have HF : Hid (WrP F S n ad x mb base f w (.returned (.tuple #[])) w4) := by
    refine ⟨rfl, ⟨fun y => if y = ad then some s' else f y, ?_⟩, K4.mono fun q _ hq => ?_⟩
    · rw [putS_eq, hcr, hin]
      refine h.upd ad s' _ K4 m2 r4 (fun q hq => ?_)
      rcases hvo q hq with e | e
      · exact .inl ((hown q).2 e)
      · exact .inr e
    · rcases hq with q | e
      · right; rw [(hown _).1 q]; exact hbg
      · exact .inl e
  have S0 : A.drew.cell? ⟨pb, 4, none⟩ = some (.map (some mb)) ∧ A.drew.cell? ⟨w.heap.size, 0, none⟩ = some (.int .u64 ad) ∧ A.drew.cell? ⟨w.heap.size, 1, none⟩ = some (.int .u64 x) := ⟨kA.cellB (fun f => f) c4, by rw [cell_of_block (w := A.drew) bA]; rfl, by rw [cell_of_block (w := A.drew) bA]; rfl⟩
  have kC := (Keeps.refl (fun _ => False) A.drew).alloc (.cells #[.int .i64 n, .int .u64 x] 121)
  have S1 : (A.drew.alloc (.cells #[.int .i64 n, .int .u64 x] 121)).cell? ⟨pb, 4, none⟩ = some (.map (some mb)) ∧ (A.drew.alloc (.cells #[.int .i64 n, .int .u64 x] 121)).cell? ⟨w.heap.size, 0, none⟩ = some (.int .u64 ad) ∧ (A.drew.alloc (.cells #[.int .i64 n, .int .u64 x] 121)).cell? ⟨w.heap.size, 1, none⟩ = some (.int .u64 x) := ⟨kC.cellB (fun f => f) S0.1, kC.cellB (fun f => f) S0.2.1, kC.cellB (fun f => f) S0.2.2⟩
  have hnb : ∀ b : Nat, b ≠ g → ¬ (Value.slice (some ⟨g, 0, none⟩) l.length sc).ownBlock = some b := fun b hb hq => hb (hvg b hq)
  have S2 : w3.cell? ⟨pb, 4, none⟩ = some (.map (some mb)) ∧ w3.cell? ⟨w.heap.size, 0, none⟩ = some (.int .u64 ad) ∧ w3.cell? ⟨w.heap.size, 1, none⟩ = some (.int .u64 x) := ⟨r3.keeps.cellB (hnb pb (by omega)) S0.1, r3.keeps.cellB (hnb w.heap.size (by omega)) S0.2.1, r3.keeps.cellB (hnb w.heap.size (by omega)) S0.2.2⟩
  have hmN : ((l.length : Int) - 1) = (m : Int) := by omega
  have w1 : IntKind.i64.wrap ((l.length : Int) - 1) = (m : Int) := by rw [hmN, IntKind.wrap_i64]; omega
  have hm0 : (0 : Int) ≤ (m : Int) := by omega
  have hm1 : (m : Int) < (l.length : Int) := by omega
  obtain ⟨ta, tn, tc⟩ := s'
  dsimp only [Sl.v] at r1 m1
  have hAA : A.drew.heap.size = A.heap.size := rfl
  rw [hAA] at r1
  have HA : Hid (_ = _) := r1
  have hA2 : Hid (A = _) := hA
  clear r1 r2 r3 r4 K3 K4 hoo hcc hgg m2 m3 hvo hvg hin hcr hlm hl oA ho h hf hS hown kA bA hsA hgb hgs c4 y1 hm hmN hv' kC hnb hAA
  subst hA
  go_enter Tryd.func47, Tryd.ntmps47
  go_wp2_with fail
  refine CO.mono ?_
  rintro ex wq ⟨rfl, hwq⟩
  subst wq
  clear CO
  go_wp2_with fail
  refine wp_until (S := (fun W : World => W.cell? ⟨pb, 4, none⟩ = some (.map (some mb)) ∧ W.cell? ⟨w.heap.size, 0, none⟩ = some (.int .u64 ad) ∧ W.cell? ⟨w.heap.size, 1, none⟩ = some (.int .u64 x))) 13 14 rfl hmxp ?_
  simp only [Array.replicate_succ, Array.replicate_zero, List.push_toArray, List.nil_append, List.cons_append]
  refine u_take (i := 0) (v := (.pointer (some ⟨pb, 0, none⟩))) 28 rfl rfl (by kernel_rfl) (by kernel_rfl) (by kernel_rfl) (by kernel_rfl) rfl (fun w' hw' => by obtain ⟨q0, q1, q2⟩ := hw'; go_simp) S0 ?_
  simp only [Act.put, List.setIfInBounds_toArray, List.set_cons_zero, List.set_cons_succ]
  refine u_take (i := 1) (v := (.pointer (some ⟨pb, 0, none⟩))) 29 rfl rfl (by kernel_rfl) (by kernel_rfl) (by kernel_rfl) (by kernel_rfl) rfl (fun w' hw' => by obtain ⟨q0, q1, q2⟩ := hw'; go_simp) S0 ?_
  simp only [Act.put, List.setIfInBounds_toArray, List.set_cons_zero, List.set_cons_succ]
  refine u_take (i := 2) (v := (.pointer (some ⟨pb, 4, none⟩))) 30 rfl rfl (by kernel_rfl) (by kernel_rfl) (by kernel_rfl) (by kernel_rfl) rfl (fun w' hw' => by obtain ⟨q0, q1, q2⟩ := hw'; go_simp) S0 ?_
  simp only [Act.put, List.setIfInBounds_toArray, List.set_cons_zero, List.set_cons_succ]
  refine u_take (i := 3) (v := (.map (some mb))) 31 rfl rfl (by kernel_rfl) (by kernel_rfl) (by kernel_rfl) (by kernel_rfl) rfl (fun w' hw' => by obtain ⟨q0, q1, q2⟩ := hw'; go_simp) S0 ?_
  simp only [Act.put, List.setIfInBounds_toArray, List.set_cons_zero, List.set_cons_succ]
  refine u_take (i := 4) (v := (.pointer (some ⟨w.heap.size, 0, none⟩))) 32 rfl rfl (by kernel_rfl) (by kernel_rfl) (by kernel_rfl) (by kernel_rfl) rfl (fun w' hw' => by obtain ⟨q0, q1, q2⟩ := hw'; go_simp) S0 ?_
  simp only [Act.put, List.setIfInBounds_toArray, List.set_cons_zero, List.set_cons_succ]
  refine u_take (i := 5) (v := (.int .u64 ad)) 33 rfl rfl (by kernel_rfl) (by kernel_rfl) (by kernel_rfl) (by kernel_rfl) rfl (fun w' hw' => by obtain ⟨q0, q1, q2⟩ := hw'; go_simp) S0 ?_
  simp only [Act.put, List.setIfInBounds_toArray, List.set_cons_zero, List.set_cons_succ]
  refine u_take (i := 6) (v := (.slice (some ⟨g, 0, none⟩) l.length sc)) 34 rfl rfl (by kernel_rfl) (by kernel_rfl) (by kernel_rfl) (by kernel_rfl) rfl (fun w' hw' => by obtain ⟨q0, q1, q2⟩ := hw'; go_simp) S0 ?_
  simp only [Act.put, List.setIfInBounds_toArray, List.set_cons_zero, List.set_cons_succ]
  refine u_take (i := 7) (v := (.int .i64 n)) 35 rfl rfl (by kernel_rfl) (by kernel_rfl) (by kernel_rfl) (by kernel_rfl) rfl (fun w' hw' => by obtain ⟨q0, q1, q2⟩ := hw'; go_simp) S0 ?_
  simp only [Act.put, List.setIfInBounds_toArray, List.set_cons_zero, List.set_cons_succ]
  refine u_take (i := 8) (v := (.pointer (some ⟨w.heap.size, 1, none⟩))) 36 rfl rfl (by kernel_rfl) (by kernel_rfl) (by kernel_rfl) (by kernel_rfl) rfl (fun w' hw' => by obtain ⟨q0, q1, q2⟩ := hw'; go_simp) S0 ?_
  simp only [Act.put, List.setIfInBounds_toArray, List.set_cons_zero, List.set_cons_succ]
  refine u_take (i := 9) (v := (.int .u64 x)) 37 rfl rfl (by kernel_rfl) (by kernel_rfl) (by kernel_rfl) (by kernel_rfl) rfl (fun w' hw' => by obtain ⟨q0, q1, q2⟩ := hw'; go_simp) S0 ?_
  simp only [Act.put, List.setIfInBounds_toArray, List.set_cons_zero, List.set_cons_succ]
  refine u_take (i := 10) (v := (.agg #[.int .i64 n, .int .u64 x])) 38 rfl rfl (by kernel_rfl) (by kernel_rfl) (by kernel_rfl) (by kernel_rfl) rfl (fun w' hw' => by obtain ⟨q0, q1, q2⟩ := hw'; go_simp) S0 ?_
  simp only [Act.put, List.setIfInBounds_toArray, List.set_cons_zero, List.set_cons_succ]
  refine u_val (i := 11) (v := (.slice (some ⟨(w.alloc (.cells #[.int .u64 ad, .int .u64 x, .bool false] 91)).heap.size, 0, none⟩) 1 1)) (w' := (w.alloc (.cells #[.int .u64 ad, .int .u64 x, .bool false] 91)).drew.alloc (.cells #[.int .i64 n, .int .u64 x] 121)) (some 39) (by kernel_rfl) rfl rfl rfl (by go_simp) S1 ?_
  simp only [Act.put, List.setIfInBounds_toArray, List.set_cons_zero, List.set_cons_succ]
  refine u_val (i := 12) (v := (.slice ta tn tc)) (w' := w3) (some 40) (by kernel_rfl) rfl rfl rfl (run_append_op rfl rfl rfl HA.out) S2 ?_
  simp only [Act.put, List.setIfInBounds_toArray, List.set_cons_zero, List.set_cons_succ]
  refine u_last (w' := w4) (by kernel_rfl) rfl rfl rfl (by go_simp) (by kernel_rfl) ?_
  go_wp2_with fail
  go_end0
  exact HF.out
/-- write: a word stands in its cell from a number on. -/
theorem write_any (pb mb base : Nat) (f : Int → Option Sl) (S : Crs2) (n m ad x : Int) (v : Value) (F : List Int) (hn : 0 < n) (h0 : 0 ≤ ad) (h1 : ad < F.length) (hcr : Cr (crs F S ad) m) (hll : (crs F S ad).length ≤ 1100000) (w : World) (c0 : w.cell? ⟨pb, 0, none⟩ = some v) (c4 : w.cell? ⟨pb, 4, none⟩ = some (.map (some mb))) (hpb : pb < base) (hbs : base ≤ w.heap.size) (hF : WsAt w v F) (h : StAt w mb base f S) :
    Calls Tryd.prog 47 #[.pointer (some ⟨pb, 0, none⟩), .int .i64 n, .agg #[.int .u64 ad, .int .u64 x, .bool false]] w (WrP F S n ad x mb base f w) := by
  cases hf : f ad with
  | none => exact write_new pb mb base f S n ad x v F hn h0 h1 w c0 c4 hF h hf hbs
  | some s =>
    have hS : S ad = some (crs F S ad) := by
      have := h.dom ad
      rw [hf] at this
      unfold crs
      cases q : S ad with
      | none => rw [q] at this; simp at this
      | some l => rfl
    have hne := hcr.ne
    by_cases hl : ((crs F S ad)[(crs F S ad).length - 1]'(by omega)).1 = n
    · exact write_same pb mb base f S n ad x F s (crs F S ad) ((crs F S ad).length - 1) (by omega) hll w c4 hpb hbs h hf hS hl
    · exact write_more pb mb base f S n ad x F s (crs F S ad) ((crs F S ad).length - 1) (by omega) hll w c4 hpb hbs h hf hS hl
end Go.Proofs.YtjmmjkoloioddaaDoor

/- What of the library of Go the program of the seat holds, in the words of the contracts of the shelf. No statement of the seat is proved here. -/
namespace Go.Proofs.YtjmmjkoloioddaaDoor
open Go.Shelf
def laysF6_ren : Go.Shelf.Ren := ⟨fun | 6 => 44 | 15 => 61 | 14 => 60 | 28 => 86 | 29 => 87 | 20 => 78 | 21 => 79 | 22 => 80 | 23 => 81 | 24 => 82 | 25 => 83 | 26 => 84 | 27 => 85 | 46 => 92 | 47 => 93 | 48 => 94 | 49 => 95 | 50 => 96 | 57 => 97 | n => n, fun | 22 => 68 | 24 => 81 | 25 => 107 | 3 => 3 | 39 => 139 | 0 => 0 | 53 => 170 | 55 => 35 | 4 => 4 | 46 => 164 | 45 => 163 | 50 => 109 | 5 => 5 | 9 => 9 | 66 => 177 | 70 => 181 | 76 => 186 | 77 => 187 | n => n, fun | n => n⟩
theorem laysF6 : Go.Proofs.SlLaysF0.n6 Tryd.prog laysF6_ren := {
  mixed := by kernel_rfl,
  f6 := ⟨"slices.SortFunc[[]parley/api.Block,parley/api.Block]", by decide, Tryd.func44.trans (congrArg some (by kernel_rfl))⟩,
  f14 := ⟨"slices.pdqsortCmpFunc[parley/api.Block]", by decide, Tryd.func60.trans (congrArg some (by kernel_rfl))⟩,
  f15 := Tryd.func61.trans (congrArg some (by kernel_rfl)),
  f20 := ⟨"slices.insertionSortCmpFunc[parley/api.Block]", by decide, Tryd.func78.trans (congrArg some (by kernel_rfl))⟩,
  f21 := ⟨"slices.heapSortCmpFunc[parley/api.Block]", by decide, Tryd.func79.trans (congrArg some (by kernel_rfl))⟩,
  f22 := ⟨"slices.breakPatternsCmpFunc[parley/api.Block]", by decide, Tryd.func80.trans (congrArg some (by kernel_rfl))⟩,
  f23 := ⟨"slices.choosePivotCmpFunc[parley/api.Block]", by decide, Tryd.func81.trans (congrArg some (by kernel_rfl))⟩,
  f24 := ⟨"slices.reverseRangeCmpFunc[parley/api.Block]", by decide, Tryd.func82.trans (congrArg some (by kernel_rfl))⟩,
  f25 := ⟨"slices.partialInsertionSortCmpFunc[parley/api.Block]", by decide, Tryd.func83.trans (congrArg some (by kernel_rfl))⟩,
  f26 := ⟨"slices.partitionEqualCmpFunc[parley/api.Block]", by decide, Tryd.func84.trans (congrArg some (by kernel_rfl))⟩,
  f27 := ⟨"slices.partitionCmpFunc[parley/api.Block]", by decide, Tryd.func85.trans (congrArg some (by kernel_rfl))⟩,
  f28 := Tryd.func86.trans (congrArg some (by kernel_rfl)),
  f29 := Tryd.func87.trans (congrArg some (by kernel_rfl)),
  f46 := ⟨"slices.siftDownCmpFunc[parley/api.Block]", by decide, Tryd.func92.trans (congrArg some (by kernel_rfl))⟩,
  f47 := Tryd.func93.trans (congrArg some (by kernel_rfl)),
  f48 := Tryd.func94.trans (congrArg some (by kernel_rfl)),
  f49 := ⟨"slices.medianAdjacentCmpFunc[parley/api.Block]", by decide, Tryd.func95.trans (congrArg some (by kernel_rfl))⟩,
  f50 := ⟨"slices.medianCmpFunc[parley/api.Block]", by decide, Tryd.func96.trans (congrArg some (by kernel_rfl))⟩,
  f57 := ⟨"slices.order2CmpFunc[parley/api.Block]", by decide, Tryd.func97.trans (congrArg some (by kernel_rfl))⟩,
  t0 := Tryd.underlying0,
  a0 := Tryd.isAgg0,
  z0 := Tryd.sizeOf0,
  v0 := Tryd.zeroValue0,
  t3 := Tryd.underlying3,
  a3 := Tryd.isAgg3,
  z3 := Tryd.sizeOf3,
  v3 := Tryd.zeroValue3,
  t4 := Tryd.underlying4,
  a4 := Tryd.isAgg4,
  z4 := Tryd.sizeOf4,
  v4 := Tryd.zeroValue4,
  t5 := Tryd.underlying5,
  a5 := Tryd.isAgg5,
  z5 := Tryd.sizeOf5,
  v5 := Tryd.zeroValue5,
  t9 := Tryd.underlying9,
  a9 := Tryd.isAgg9,
  z9 := Tryd.sizeOf9,
  v9 := Tryd.zeroValue9,
  t22 := Tryd.underlying68,
  a22 := Tryd.isAgg68,
  z22 := Tryd.sizeOf68,
  v22 := Tryd.zeroValue68,
  t25 := Tryd.underlying107,
  a25 := Tryd.isAgg107,
  z25 := Tryd.sizeOf107,
  v25 := Tryd.zeroValue107,
  t39 := Tryd.underlying139,
  a39 := Tryd.isAgg139,
  z39 := Tryd.sizeOf139,
  v39 := Tryd.zeroValue139,
  t45 := Tryd.underlying163,
  a45 := Tryd.isAgg163,
  z45 := Tryd.sizeOf163,
  v45 := Tryd.zeroValue163,
  t46 := Tryd.underlying164,
  a46 := Tryd.isAgg164,
  z46 := Tryd.sizeOf164,
  v46 := Tryd.zeroValue164,
  t50 := Tryd.underlying109,
  a50 := Tryd.isAgg109,
  z50 := Tryd.sizeOf109,
  v50 := Tryd.zeroValue109,
  t53 := Tryd.underlying170,
  a53 := Tryd.isAgg170,
  z53 := Tryd.sizeOf170,
  v53 := Tryd.zeroValue170,
  t55 := Tryd.underlying35,
  a55 := Tryd.isAgg35,
  z55 := Tryd.sizeOf35,
  v55 := Tryd.zeroValue35,
  t66 := Tryd.underlying177,
  a66 := Tryd.isAgg177,
  z66 := Tryd.sizeOf177,
  v66 := Tryd.zeroValue177,
  t70 := Tryd.underlying181,
  a70 := Tryd.isAgg181,
  z70 := Tryd.sizeOf181,
  v70 := Tryd.zeroValue181,
  t76 := Tryd.underlying186,
  a76 := Tryd.isAgg186,
  z76 := Tryd.sizeOf186,
  v76 := Tryd.zeroValue186,
  t77 := Tryd.underlying187,
  a77 := Tryd.isAgg187,
  z77 := Tryd.sizeOf187,
  v77 := Tryd.zeroValue187
}

end Go.Proofs.YtjmmjkoloioddaaDoor


/- The library's sort at rows of any width; the blocks by their last places. No statement of the seat is proved here. -/
namespace Go.Proofs.YtjmmjkoloioddaaDoor
open Go.RowKit Go.Shelf Go.Sort

section
variable {α : Type} [Inhabited α]
theorem flatK_flatV {c : α → List Value} {sz : Nat} (hz : 0 < sz) (hc : ∀ x, (c x).length = sz) (L : List α) : (flatK c sz L.toArray).toList = flatV c L := by
  apply List.ext_getElem?
  intro t
  by_cases ht : t < L.length * sz
  · have hq : t / sz < L.length := (Nat.div_lt_iff_lt_mul hz).2 ht
    have e : t = t / sz * sz + t % sz := by rw [Nat.mul_comm]; exact (Nat.div_add_mod t sz).symm
    have h1 := flatV_at hc L (t / sz) (t % sz) hq (Nat.mod_lt _ hz)
    rw [← e] at h1
    rw [h1]
    have h2 : (flatK c sz L.toArray)[t]! = (c (L.toArray[t / sz]!))[t % sz]! := get_flatK _ _ _ t (by simpa using ht)
    rw [getElem!_pos _ t (by simpa using ht)] at h2
    rw [Array.getElem?_toList, Array.getElem?_eq_getElem (by simpa using ht), h2, getElem!_pos L.toArray (t / sz) (by simpa using hq)]
    have hm : t % sz < (c (L[t / sz])).length := by rw [hc]; exact Nat.mod_lt _ hz
    rw [List.getElem_toArray, getElem!_pos (c (L[t / sz])) (t % sz) hm, List.getElem?_eq_getElem hm]
  · rw [List.getElem?_eq_none (by simp; omega), List.getElem?_eq_none (by rw [flatV_len hc]; omega)]
theorem holdsK_own {c : α → List Value} {sz : Nat} (hz : 0 < sz) (hc : ∀ x, (c x).length = sz) {w : World} {base g cap n : Nat} {t : TypeId} {L : List α} (h : OwnR c sz t w base (.slice (some ⟨g, 0, none⟩) n cap) L) : HoldsK c sz w g 0 L.toArray := by
  unfold HoldsK Holds
  intro j hj
  rw [size_flatK] at hj
  simp only [List.size_toArray] at hj
  rcases h.own.2 with ⟨q, _⟩ | ⟨g3, cap3, cur3, q1, q2, q3, q4, q5, q6, q7⟩
  · cases q
  · have e2 : g = g3 := by injection q1 with q; injection q with q; injection q
    subst e2
    refine ⟨?_, frozen_of_block q3 _⟩
    rw [Nat.zero_add, cell_of_block q3, ← Array.getElem?_toList, ← List.getElem?_take_of_lt (show j < L.length * sz by omega), q7, ← flatK_flatV hz hc, Array.getElem?_toList, Array.getElem?_eq_getElem (by simpa using hj), getElem!_pos _ j (by simpa using hj)]
    rfl
theorem own_sortedK {c : α → List Value} {sz : Nat} (hz : 0 < sz) (hc : ∀ x, (c x).length = sz) {w : World} {base g cap n m : Nat} {t : TypeId} {L M : List α} {os : Array Obj} (hl : M.length = L.length) (h : OwnR c sz t w base (.slice (some ⟨g, 0, none⟩) n cap) L) : OwnR c sz t (sortWorldK c sz w g 0 m M.toArray os) base (.slice (some ⟨g, 0, none⟩) n cap) M ∧ Keeps (fun q => q = g) w (sortWorldK c sz w g 0 m M.toArray os) := by
  have hk : Keeps (fun q => q = g) w (sortWorldK c sz w g 0 m M.toArray os) := by
    unfold sortWorldK putRowK
    refine ⟨rfl, rfl, rfl, by simp, fun k hk hne => ?_⟩
    rw [heap_grow_old _ _ (by simpa using hk)]
    have : g ≠ k := fun e => hne e.symm
    simp [putRow, mapBlock, Sort.ahead, Array.getElem?_modify, this]
  refine ⟨?_, hk⟩
  rcases h.own.2 with ⟨q, _⟩ | ⟨g3, cap3, cur3, q1, q2, q3, q4, q5, q6, q7⟩
  · cases q
  · injection q1 with e1 e2 e3
    injection e1 with e1
    injection e1 with e1
    subst e1 e2 e3
    have hb : (sortWorldK c sz w g 0 m M.toArray os).heap[g]? = some (.cells (putCells id 0 (flatK c sz M.toArray) cur3) t (0, 0)) := by
      unfold sortWorldK putRowK
      have hg := lt_of_block q3
      rw [heap_grow_old _ _ (by simpa using hg)]
      simp [putRow, mapBlock, Sort.ahead, Array.getElem?_modify, q3, onCells]
    refine ⟨⟨flatV_len hc M, .inr ⟨g, cap, _, by rw [hl], q2, hb, by rw [hl]; exact q4, q5, by simp [putCells, q6], ?_⟩⟩, Nat.le_trans h.base hk.size⟩
    have hle : M.length * sz ≤ cur3.size := by rw [q6, hl]; exact Nat.mul_le_mul_right _ q4
    rw [← flatK_flatV hz hc M]
    apply List.ext_getElem?
    intro j
    by_cases hj : j < M.length * sz
    · rw [List.getElem?_take_of_lt hj, Array.getElem?_toList, Array.getElem?_toList]
      have h9 : j < (flatK c sz M.toArray).size := by simpa using hj
      simp only [putCells, Array.getElem?_mapIdx]
      rw [Array.getElem?_eq_getElem (by omega), Array.getElem?_eq_getElem h9]
      simp only [Option.map_some, Nat.zero_le, true_and, Nat.zero_add, Nat.sub_zero]
      rw [if_pos h9, getElem!_pos _ j h9]; rfl
    · rw [List.getElem?_take_eq_none (by omega), List.getElem?_eq_none (by simp; omega)]
end
def laC (x y : Bx) : Int := cmpI x.p.la y.p.la
set_option maxRecDepth 100000 in
set_option maxHeartbeats 4000000 in
theorem cmpBB_at (x y : Bx) (w : World) : Calls Tryd.prog 45 #[.agg #[.int .i64 x.p.th, .int .i64 x.p.kd, .int .i64 x.p.fi, .int .i64 x.p.la, .int .u64 x.p.nu, .bool x.p.wr, .int .i64 x.p.er, .slice x.r.a x.r.n x.r.c, .slice x.s.a x.s.n x.s.c], .agg #[.int .i64 y.p.th, .int .i64 y.p.kd, .int .i64 y.p.fi, .int .i64 y.p.la, .int .u64 y.p.nu, .bool y.p.wr, .int .i64 y.p.er, .slice y.r.a y.r.n y.r.c, .slice y.s.a y.s.n y.s.c]] w fun ex w' => ex = .returned (.int .i64 (cmpI x.p.la y.p.la)) ∧ w' = (w.alloc (.cells #[.int .i64 x.p.th, .int .i64 x.p.kd, .int .i64 x.p.fi, .int .i64 x.p.la, .int .u64 x.p.nu, .bool x.p.wr, .int .i64 x.p.er, .slice x.r.a x.r.n x.r.c, .slice x.s.a x.s.n x.s.c] 81)).alloc (.cells #[.int .i64 y.p.th, .int .i64 y.p.kd, .int .i64 y.p.fi, .int .i64 y.p.la, .int .u64 y.p.nu, .bool y.p.wr, .int .i64 y.p.er, .slice y.r.a y.r.n y.r.c, .slice y.s.a y.s.n y.s.c] 81) := by
  have CM := fun X => cmpN_any x.p.la y.p.la X
  generalize cmpI x.p.la y.p.la = z at *
  go_enter Tryd.func45, Tryd.ntmps45
  go_wp2_with fail
  refine (CM _).mono ?_
  rintro ex w2 ⟨rfl, rfl⟩
  go_wp2_with fail
  go_ret
  exact ⟨rfl, rfl⟩
theorem ltLa (x y : Bx) : ltOf laC x y = decide (x.p.la < y.p.la) := by
  unfold ltOf laC
  rw [Bool.eq_iff_iff, decide_eq_true_eq, decide_eq_true_eq, cmpI_lt]
theorem swoLa : SWO (ltOf laC) where
  irrefl x := by rw [ltLa]; simp
  trans x y z h1 h2 := by rw [ltLa] at *; simp at *; omega
  ntrans x y z h1 h2 := by rw [ltLa] at *; simp at *; omega
theorem sortB_any {w : World} {base : Nat} {v : Value} (Z : List Bx) (hl : Z.length ≤ 1200000) (h : OwnR Bx.cb 9 81 w base v Z) :
    Calls Tryd.prog 44 #[v, .func (.func 45) #[] #[]] w fun e w' => e = .returned (.tuple #[]) ∧ ∃ Y : List Bx, OwnR Bx.cb 9 81 w' base v Y ∧ Y.Perm Z ∧ Y.Pairwise (fun p q => p.p.la ≤ q.p.la) ∧ Keeps (fun q => v.ownBlock = some q) w w' := by
  haveI : Inhabited Bx := ⟨⟨pt0, sl0, sl0⟩⟩
  by_cases hL : Z = []
  · subst hL
    obtain ⟨b, cp, rfl⟩ := h.form
    refine (AnyF.slices_SortFunc_none (P := Tryd.prog) (ρ := laysF6_ren) laysF6 b cp _ w).mono fun e w' ⟨h1, h2⟩ => ?_
    subst h2
    exact ⟨h1, [], h, .refl _, List.Pairwise.nil, Keeps.refl _ _⟩
  · have hlen : 0 < Z.length := List.length_pos_iff.2 hL
    obtain ⟨g, cap, cur, rfl, hbg, hgb, hgs⟩ := h.at hlen
    have hH := holdsK_own (by decide) cb_len h
    have eg : ∀ args w, (callFunc 45 args).run Tryd.prog w = .ok (.enter 45 args) w := enters_of Tryd.func45 (by kernel_rfl) rfl
    have hcmp : CmpLays Tryd.prog 45 #[] Bx.cb 9 laC g 0 Z.toArray.size w := fun m os dk hs x y => by
      refine (cmpBB_at x y _).mono fun ex w' ⟨h1, h2⟩ => ?_
      rw [alloc_eq_grow, alloc_eq_grow, grow_grow] at h2
      exact ⟨h1, 0, _, h2⟩
    have hsz : Z.toArray.size = Z.length := by simp
    have C := AnyQ.slices_SortFunc (P := Tryd.prog) (ρ := laysF6_ren) laysF6 9 Tryd.isAgg81 Tryd.sizeOf81 Bx.cb cb_len cb_one laC swoLa 45 #[] g 0 cap Z.toArray w eg hcmp hH (lt_of_block hgb) (by rw [hsz]; omega)
    rw [hsz] at C
    refine C.mono fun e w' ⟨h1, d', n, os, hp, hs, hw⟩ => ?_
    obtain ⟨hz1, _, hperm⟩ := hp
    rw [hsz] at hz1
    have e1 : d'.extract 0 Z.length = d' := by rw [← hz1]; exact Array.extract_size
    have e2 : Z.toArray.extract 0 Z.length = Z.toArray := by rw [← hsz]; exact Array.extract_size
    rw [e1, e2] at hperm
    have hdl : d'.toList.length = Z.length := by simpa using hz1
    have hso := own_sortedK (c := Bx.cb) (sz := 9) (by decide) cb_len (m := n) (os := os) (M := d'.toList) hdl h
    rw [show d'.toList.toArray = d' by simp, ← hw] at hso
    refine ⟨h1, d'.toList, hso.1, by simpa using hperm, ?_, hso.2.mono fun q _ e => by rw [e]; rfl⟩
    rw [List.pairwise_iff_getElem]
    intro i j hi hj hij
    have hi' : i < d'.size := by simpa using hi
    have hj' : j < d'.size := by simpa using hj
    have := hs i j (Nat.zero_le _) hij (by omega)
    rw [getElem!_pos d' j hj', getElem!_pos d' i hi', ltLa] at this
    simp only [decide_eq_false_iff_not, Int.not_lt] at this
    simpa using this
end Go.Proofs.YtjmmjkoloioddaaDoor
