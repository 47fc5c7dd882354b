
/-
  Walks of the program's leave, free and Take. No statement of the seat is proved here.
-/
import Derived.Test.YtbgnlenhncbceaaDoorPutI
namespace Go.Proofs.YtbgnlenhncbceaaDoor.I
open Go.RowKit

/-- A scope that runs through two pieces of code to its one label, and jumps back to it. -/
theorem wp_scope_loop2 {P : Program} {a : Act} {w : World} {Q : Exit → Act → World → Prop} {A B R : Code} (l : Nat) (J : Act → World → Prop) (μ : Act → World → Nat) (hf : findLabel (A.seq (B.seq ((Code.label l).seq R))) l = some (Code.skip.seq R))
    (first : A.wp P (Exit.then (fun a w => B.wp P (Exit.then J (fun _ _ _ => False)) a w) (fun _ _ _ => False)) a w) (pass : ∀ a w, J a w → R.wp P (Exit.jump l (fun a' w' => J a' w' ∧ μ a' w' < μ a w) Q) a w) :
    (Code.scope (A.seq (B.seq ((Code.label l).seq R)))).wp P Q a w := by
  refine wp_scope_jumps l J μ hf ?_ ?_
  · refine wp_seq (wp_mono first ?_)
    intro e a' w' he
    cases e with
    | normal =>
      refine wp_seq (wp_mono he ?_)
      intro e a3 w3 h3
      cases e with
      | normal =>
        refine wp_seq (wp_label ?_)
        exact wp_mono (pass a3 w3 h3) (fun e a2 w2 h2 => by
          cases e with
          | goto l' => exact ⟨h2.1, h2.2.1⟩
          | normal => exact h2
          | exit id => exact h2
          | ret => exact h2
          | panic ch => exact h2
          | outgrown => exact h2)
      | goto l' => exact False.elim h3
      | exit id => exact False.elim h3
      | ret => exact False.elim h3
      | panic ch => exact False.elim h3
      | outgrown => exact False.elim h3
    | goto l' => exact False.elim he
    | exit id => exact False.elim he
    | ret => exact False.elim he
    | panic ch => exact False.elim he
    | outgrown => exact False.elim he
  · intro a' w' hJ
    exact wp_seq (wp_skip (pass a' w' hJ))

set_option maxHeartbeats 400000 in
theorem leave_at (b s e0 : Nat) (K : List (Option Int)) (O : List Int) (bf : Int → Nat) (vf : Int → Value) (i : Nat) (w : World) (h : TabAt kinds w b s e0 K O bf vf) (hO : O.length < 35184372088832) (hi : i < O.length) :
    Calls Tryd.prog 72 #[.pointer (some ⟨b, 0, none⟩), .pointer (some ⟨bf (oat O i), 0, none⟩)] w fun e w' => (∃ v, e = .returned v) ∧
      Like w' (leaveW w b (node bf e0 O i) (node bf e0 O (i + 2)) (O.length - 1 : Nat)) := by
  have c1 := h.c1
  have f1 := h.fb 1
  have he := h.ent i hi
  have e2 : w.cell? ⟨bf (oat O i), 2, none⟩ = some (.pointer (some ⟨node bf e0 O i, 0, none⟩)) := cell_of_block he 2
  have e3 : w.cell? ⟨bf (oat O i), 3, none⟩ = some (.pointer (some ⟨node bf e0 O (i + 2), 0, none⟩)) := cell_of_block he 3
  have hnode : ∀ j, j ≤ O.length + 1 → ∃ c : Array Value, w.heap[node bf e0 O j]? = some (.cells c kinds.ent (0, 0)) ∧ ∃ u v, c[2]? = some u ∧ c[3]? = some v := by
    intro j hj
    cases j with
    | zero => exact ⟨_, h.sent, _, _, rfl, rfl⟩
    | succ j =>
      by_cases hl : j < O.length
      · exact ⟨_, by rw [node_pos bf e0 O hl]; exact h.ent j hl, _, _, rfl, rfl⟩
      · exact ⟨_, by rw [show j + 1 = O.length + 1 by omega, node_end]; exact h.sent, _, _, rfl, rfl⟩
  obtain ⟨ca, hca, ua, va, ha2, ha3⟩ := hnode i (by omega)
  obtain ⟨cc, hcc, uc, vc, hc2, hc3⟩ := hnode (i + 2) (by omega)
  have a3 : w.cell? ⟨node bf e0 O i, 3, none⟩ = some va := by rw [cell_of_block hca]; exact ha3
  have fa := frozen_of_block hca 3
  have d2 : w.cell? ⟨node bf e0 O (i + 2), 2, none⟩ = some uc := by rw [cell_of_block hcc]; exact hc2
  have fc := frozen_of_block hcc 2
  have hea : bf (oat O i) ≠ node bf e0 O i := by
    rw [← node_pos bf e0 O hi]
    intro e
    have := node_inj h (i + 1) i (by omega) (by omega) e
    omega
  have hec : bf (oat O i) ≠ node bf e0 O (i + 2) := by
    by_cases h2 : i + 2 ≤ O.length
    · rw [← node_pos bf e0 O hi]
      intro e
      have := node_inj h (i + 1) (i + 2) (by omega) h2 e
      omega
    · rw [show i + 2 = O.length + 1 by omega, node_end]
      exact (h.kb _ (oat_mem hi)).2.2
  have hl1 : (1 : Int) ≤ (O.length : Int) := by omega
  have hcast : ((O.length - 1 : Nat) : Int) = (O.length : Int) - 1 := by omega
  rw [hcast]
  clear hnode hca hcc ha2 ha3 hc2 hc3 he h hi hcast
  generalize bf (oat O i) = E at *
  generalize node bf e0 O i = A at *
  generalize node bf e0 O (i + 2) = C at *
  go_enter Tryd.func72, Tryd.ntmps72
  go_wp2_with fail
  go_region
  go_wp2_with fail
  go_end0
  refine ⟨⟨_, rfl⟩, ?_⟩
  exact ⟨rfl, rfl, rfl, rfl⟩

/-- What holds at the label of free. -/
def FreeJ (w : World) (b s e0 n D i : Nat) (h : Int → Nat) (K : List (Option Int)) (O : List Int) (bf : Int → Nat) (vf : Int → Value) (a' : Act) (w' : World) : Prop :=
  ∃ (j x g : Nat) (u5 u6 u7 u8 u9 u10 u11 u12 u13 u14 u15 u16 u17 u18 u19 u20 u21 u22 u23 u24 u25 u26 u27 u28 u29 u30 u31 u32 u33 u34 u35 u36 u37 u38 u39 u40 u41 u42 u43 u44 u45 u46 u47 u48 u49 u50 u51 u52 u53 : Value), j < D ∧ Hid (x = wrapN n (i + j)) ∧ Hid (g = (shiftN n h K i j).2) ∧ TabAt kinds w' b s e0 (shiftN n h K i j).1 O bf vf ∧ Keeps (fun k => k = s) w w' ∧
    a' = { tmps := #[.pointer (some ⟨b, 0, none⟩), .int .i64 x, undef, undef, .int .i64 g, u5, u6, u7, u8, u9, u10, u11, u12, u13, u14, u15, u16, u17, u18, u19, u20, u21, u22, u23, u24, u25, u26, u27, u28, u29, u30, u31, u32, u33, u34, u35, u36, u37, u38, u39, u40, u41, u42, u43, u44, u45, u46, u47, u48, u49, u50, u51, u52, u53], defers := [] }

set_option maxHeartbeats 1000000 in
theorem free_at (b s e0 p n D i : Nat) (k0 : Int) (K : List (Option Int)) (O0 O : List Int) (bf : Int → Nat) (vf : Int → Value) (w : World) (hw : Tz w) (hs0 : s ≠ 0) (hT : TabAt kinds w b s e0 K O bf vf) (hn : Hid (n = 2 ^ p)) (h3 : 3 ≤ p) (hp : p < 48)
    (I : Inv n (homeP p) K O0) (hi : i < n) (hk : sl K i = some k0) (hD : D = gapN n K i) (hmem : ∀ x q, sl K x = some q → q ≠ k0 → q ∈ O) :
    Calls Tryd.prog 73 #[.pointer (some ⟨b, 0, none⟩), .int .i64 i] w fun e w' => (∃ v, e = .returned v) ∧ TabAt kinds w' b s e0 (takeN n (homeP p) K i) O bf vf ∧ Keeps (fun k => k = s) w w' := by
  obtain ⟨g0, g1, g2, g3⟩ := gap_spec hi hk I.free
  rw [← hD] at g0 g1 g2 g3
  have hmid := mid_all I hi hk g0 g1 g2 g3
  have hnb : n ≤ 4611686018427387904 := by
    rw [hn.out]
    exact Nat.pow_le_pow_right (n := 2) (by decide) (by omega : p ≤ 62)
  have hln : K.length = n := I.len
  have c0 := hT.c0
  have cs := hT.cs i (by omega)
  have fs := hT.fs i
  have hT0 : TabAt kinds (w.setCell ⟨s, i, none⟩ (.pointer none)) b s e0 (shiftN n (homeP p) K i 0).1 O bf vf := hT.store i none
  have hil : i < K.length := by omega
  have hK0 : Keeps (fun k => k = s) w (w.setCell ⟨s, i, none⟩ (.pointer none)) := (Keeps.refl (fun k => k = s) w).setCell (p := ⟨s, i, none⟩) (.inr rfl) _
  go_enter Tryd.func73, Tryd.ntmps73
  go_wp2_with fail
  refine wp_scope_loop2 0 (FreeJ w b s e0 n D i (homeP p) K O bf vf) (fun a' _ => D - farN n i (intOf (a'.tmps.getD 1 undef)).toNat) rfl ?_ ?_
  · clear hmid hmem g3 hD
    go_wp2_with fail
    exact ⟨0, i, i, _, _, _, _, _, _, _, _, _, _, _, _, _, _, _, _, _, _, _, _, _, _, _, _, _, _, _, _, _, _, _, _, _, _, _, _, _, _, _, _, _, _, _, _, _, _, _, _, _, g0, (show wrapN n (i + 0) = i from if_pos hi).symm, rfl, hT0, hK0, rfl⟩
  · rintro a' w' ⟨j, x, g, u5, u6, u7, u8, u9, u10, u11, u12, u13, u14, u15, u16, u17, u18, u19, u20, u21, u22, u23, u24, u25, u26, u27, u28, u29, u30, u31, u32, u33, u34, u35, u36, u37, u38, u39, u40, u41, u42, u43, u44, u45, u46, u47, u48, u49, u50, u51, u52, u53, hj, hx, hg, hTj, hKj, rfl⟩
    clear c0 cs fs hT0 hil hK0
    have M := hmid j hj
    have hlj : (shiftN n (homeP p) K i j).1.length = n := M.len
    have c0 := hTj.c0
    rw [hlj] at c0
    have hxn : x < n := by rw [hx.out]; exact wrap_lt (by omega)
    have hnext := next_at b s n x p w' hp hn hxn c0
    have HY : Hid (wrapN n (x + 1) = wrapN n (i + (j + 1))) := by
      unfold Hid
      rw [hx.out]
      unfold wrapN
      split <;> split <;> split <;> omega
    have hyn : wrapN n (x + 1) < n := wrap_lt (by omega)
    have hcy := hTj.cs (wrapN n (x + 1)) (by omega)
    have hfy := hTj.fs (wrapN n (x + 1))
    have hsame := M.same (j + 1) (by omega) (by omega)
    rw [← HY.out] at hsame
    rw [hsame] at hcy
    have hfx : farN n i x = j := by rw [hx.out]; exact far_wrap hi (by omega)
    rcases Nat.lt_or_ge (j + 1) D with hlt | hge
    · obtain ⟨q, hq⟩ := g3 (j + 1) (by omega) hlt
      have hq1 : sl (shiftN n (homeP p) K i j).1 (wrapN n (x + 1)) = some q := by rw [hsame, HY.out]; exact hq
      rw [← HY.out] at hq
      rw [hq] at hcy
      simp only [slotVal] at hcy
      have hqk : q ≠ k0 := ((M.mem q).1 ⟨_, hq1⟩).2
      have hqO : q ∈ O := hmem _ q hq hqk
      obtain ⟨ea, ec, heq⟩ := hTj.key hqO
      have hck : w'.cell? ⟨bf q, 0, none⟩ = some (.int .u64 q) := cell_of_block heq 0
      have hgn : g < n := by
        obtain ⟨gg, h1, h2⟩ := M.gap
        rw [hg.out, h2]
        exact wrap_lt (by omega)
      have hcg := hTj.cs g (by omega)
      have hfg := hTj.fs g
      have hgy : g ≠ wrapN n (x + 1) := by
        intro e
        have := M.gone
        rw [← hg.out, e, hq1] at this
        cases this
      have hwz : Tz w' := hw.keeps hKj (fun e => hs0 e.symm)
      have hfar : ∀ (m z : Nat), z < n → Calls Tryd.prog 75 #[.pointer (some ⟨b, 0, none⟩), .int .u64 q, .int .i64 z] (w'.drewN m) fun e w2 => e = .returned (.int .i64 (farN n (homeP p q) z)) ∧ w2 = w'.drewN m :=
        fun m z hz => far_at b s n z p q (w'.drewN m) h3 hp hn hz hwz c0
      have hstep : shiftN n (homeP p) K i (j + 1) = if farN n (homeP p q) g < farN n (homeP p q) (wrapN n (x + 1)) then (((shiftN n (homeP p) K i j).1.set g (some q)).set (wrapN n (x + 1)) none, wrapN n (x + 1)) else shiftN n (homeP p) K i j := by
        show shiftStep n (homeP p) (shiftN n (homeP p) K i j) (wrapN n (i + (j + 1))) = _
        unfold shiftStep
        rw [← HY.out, hq1, ← hg.out]
      have hxj : wrapN n (i + (j + 1)) = wrapN n (x + 1) := HY.out.symm
      have hfy1 : farN n i (wrapN n (x + 1)) = j + 1 := by rw [HY.out]; exact far_wrap hi (by omega)
      have HX2 : Hid (wrapN n (x + 1) = wrapN n (i + (j + 1))) := HY
      generalize hyy : wrapN n (x + 1) = y at *
      have HYY : Hid (wrapN n (x + 1) = y) := hyy
      clear hyy
      by_cases hm : farN n (homeP p q) g < farN n (homeP p q) y
      · rw [if_pos hm] at hstep
        have hT2 : TabAt kinds ((w'.setCell ⟨s, g, none⟩ (.pointer (some ⟨bf q, 0, none⟩))).setCell ⟨s, y, none⟩ (.pointer none)) b s e0 (shiftN n (homeP p) K i (j + 1)).1 O bf vf := by
          rw [hstep]
          exact (hTj.store g (some q)).store y none
        have hg2 : y = (shiftN n (homeP p) K i (j + 1)).2 := by rw [hstep]
        have hK2 : Keeps (fun k => k = s) w ((w'.setCell ⟨s, g, none⟩ (.pointer (some ⟨bf q, 0, none⟩))).setCell ⟨s, y, none⟩ (.pointer none)) :=
          (hKj.setCell (p := ⟨s, g, none⟩) (.inr rfl) _).setCell (p := ⟨s, y, none⟩) (.inr rfl) _
        have HG : Hid (y = (shiftN n (homeP p) K i (j + 1)).2) := hg2
        have hmi : (farN n (homeP p q) g : Int) < (farN n (homeP p q) y : Int) := by omega
        clear hg2 hstep hmid hmem g3 M hq hq1 hsame heq hTj hKj hT hxj hn
        go_wp2_with fail
        refine hnext.mono ?_
        rintro e w2 ⟨rfl, hw2⟩
        replace hw2 := hw2.symm
        subst hw2
        go_wp2_with fail
        go_quiet ((go_at_call 75; exact (hfar _ _ (by first | exact hgn | exact hyn)).mono (fun _ _ ⟨h1, h2⟩ => ⟨h1, _, h2⟩)))
        go_wp2_with fail
        go_region
        go_wp2_with fail
        go_step3
        refine ⟨rfl, ⟨j + 1, y, y, _, _, _, _, _, _, _, _, _, _, _, _, _, _, _, _, _, _, _, _, _, _, _, _, _, _, _, _, _, _, _, _, _, _, _, _, _, _, _, _, _, _, _, _, _, _, _, _, _, hlt, HX2, HG, Like.tab (by exact ⟨rfl, rfl, rfl, rfl⟩) hT2, Like.keeps (by exact ⟨rfl, rfl, rfl, rfl⟩) hK2, rfl⟩, ?_⟩
        simp [intOf, hfx, hfy1]
        omega
      · rw [if_neg hm] at hstep
        have hg2 : g = (shiftN n (homeP p) K i (j + 1)).2 := by rw [hstep]; exact hg.out
        have HG : Hid (g = (shiftN n (homeP p) K i (j + 1)).2) := hg2
        have hmi : ¬ (farN n (homeP p q) g : Int) < (farN n (homeP p q) y : Int) := by omega
        rw [← hstep] at hTj
        clear hg2 hstep hmid hmem g3 M hq hq1 hsame heq hT hxj hn
        go_wp2_with fail
        refine hnext.mono ?_
        rintro e w2 ⟨rfl, hw2⟩
        replace hw2 := hw2.symm
        subst hw2
        go_wp2_with fail
        go_quiet ((go_at_call 75; exact (hfar _ _ (by first | exact hgn | exact hyn)).mono (fun _ _ ⟨h1, h2⟩ => ⟨h1, _, h2⟩)))
        go_wp2_with fail
        go_step3
        refine ⟨rfl, ⟨j + 1, y, g, _, _, _, _, _, _, _, _, _, _, _, _, _, _, _, _, _, _, _, _, _, _, _, _, _, _, _, _, _, _, _, _, _, _, _, _, _, _, _, _, _, _, _, _, _, _, _, _, _, hlt, HX2, HG, Like.tab (by exact ⟨rfl, rfl, rfl, rfl⟩) hTj, Like.keeps (by exact ⟨rfl, rfl, rfl, rfl⟩) hKj, rfl⟩, ?_⟩
        simp [intOf, hfx, hfy1]
        omega
    · have hjD : j + 1 = D := by omega
      have hend : sl K (wrapN n (x + 1)) = none := by rw [HY.out, hjD]; exact g2
      rw [hend] at hcy
      simp only [slotVal] at hcy
      have hfin : takeN n (homeP p) K i = (shiftN n (homeP p) K i j).1 := by
        unfold takeN
        rw [← hD, show D - 1 = j by omega]
      rw [← hfin] at hTj
      clear hmid hmem g3 M hsame hT hfin hend hn
      generalize wrapN n (x + 1) = y at *
      go_wp2_with fail
      refine hnext.mono ?_
      rintro e w2 ⟨rfl, hw2⟩
      replace hw2 := hw2.symm
      subst hw2
      go_wp2_with fail
      simp only [Exit.jump]
      go_end0
      exact ⟨⟨_, rfl⟩, hTj, hKj⟩

theorem erase_filter : ∀ (O : List Int) (i : Nat), O.Nodup → i < O.length → O.eraseIdx i = O.filter (fun k => decide (k ≠ oat O i)) := by
  intro O
  induction O with
  | nil => intro i _ h; simp at h
  | cons a O ih =>
    intro i hd hi
    rw [List.nodup_cons] at hd
    cases i with
    | zero =>
      have h0 : oat (a :: O) 0 = a := rfl
      rw [h0, List.eraseIdx_zero, List.tail_cons, List.filter_cons_of_neg (by simp)]
      rw [List.filter_eq_self.2]
      intro k hk
      simp
      rintro rfl
      exact hd.1 hk
    | succ i =>
      simp at hi
      have hs : oat (a :: O) (i + 1) = oat O i := by simp [oat]
      rw [hs, List.eraseIdx_cons_succ, List.filter_cons_of_pos, ih i hd.2 hi]
      simp
      rintro rfl
      exact hd.1 (oat_mem hi)

set_option maxHeartbeats 400000 in
theorem take_out (b s e0 p : Nat) (K : List (Option Int)) (O : List Int) (bf : Int → Nat) (vf : Int → Value) (k : Int) (w : World) (h : Good w b s e0 p K O bf vf) (hw : Tz w) (hk : k ∉ O) :
    Calls Tryd.prog 67 #[.pointer (some ⟨b, 0, none⟩), .int .u64 k] w fun e w' => e = .returned (.tuple #[Value.int .i64 0, .bool false]) ∧ w' = w := by
  have hm := h.made
  have hf := h.find hw k
  have c0 := h.tab.c0
  have hsl := h.slotlt k
  have hcs := h.tab.cs _ hsl
  rw [h.inv.slot_out hk] at hcs
  simp only [slotVal] at hcs
  generalize slotN (2 ^ p) K (homeP p k) k = x at *
  generalize lookN (2 ^ p) K (homeP p k) k + 1 = L at *
  clear h hk
  go_enter Tryd.func67, Tryd.ntmps67
  go_wp2_with (first | (go_at_call 61; refine hm.mono ?_; rintro e w' ⟨rfl, rfl⟩) | (go_at_call 63; refine hf.mono ?_; rintro e w' ⟨rfl, rfl⟩))
  go_ret2
  exact ⟨rfl, rfl⟩

set_option maxHeartbeats 400000 in
theorem take_in (b s e0 p : Nat) (K : List (Option Int)) (O : List Int) (bf : Int → Nat) (vf : Int → Value) (k : Int) (w : World) (h : Good w b s e0 p K O bf vf) (hw : Tz w) (hpos : ∀ q, Own b s e0 O bf q → 0 < q) (hk : k ∈ O) :
    Calls Tryd.prog 67 #[.pointer (some ⟨b, 0, none⟩), .int .u64 k] w fun e w' => e = .returned (.tuple #[vf k, .bool true]) ∧
      Good w' b s e0 p (takeN (2 ^ p) (homeP p) K (slotN (2 ^ p) K (homeP p k) k)) (O.filter (fun q => decide (q ≠ k))) bf vf ∧ Keeps (Own b s e0 O bf) w w' := by
  have hm := h.made
  have hf := h.find hw k
  have c0 := h.tab.c0
  have hsl := h.slotlt k
  have hcs := h.tab.cs _ hsl
  have hin := h.inv.slot_in hk
  rw [hin] at hcs
  obtain ⟨i, hi, hik⟩ := mem_oat hk
  have hlv := leave_at b s e0 K O bf vf i w h.tab (by have := h.len; omega) hi
  have hef := erase_filter O i h.tab.nd hi
  rw [hik] at hlv hef
  have hTl := h.tab.leave hi
  have hKl := leaveW_keeps w b s e0 O bf i (i + 2) (O.length - 1 : Nat)
  rw [hef] at hTl
  have hvk : vf k = vf k := rfl
  simp only [slotVal] at hcs
  have hlen : K.length = 2 ^ p := h.inv.len
  have hfree : ∀ w', Like w' (leaveW w b (node bf e0 O i) (node bf e0 O (i + 2)) (O.length - 1 : Nat)) →
      Calls Tryd.prog 73 #[.pointer (some ⟨b, 0, none⟩), .int .i64 (slotN (2 ^ p) K (homeP p k) k)] w' fun e w2 => (∃ v, e = .returned v) ∧
        Hid (Good w2 b s e0 p (takeN (2 ^ p) (homeP p) K (slotN (2 ^ p) K (homeP p k) k)) (O.filter (fun q => decide (q ≠ k))) bf vf ∧ Keeps (Own b s e0 O bf) w w2) ∧ w2.cell? ⟨bf k, 1, none⟩ = some (vf k) := by
    intro w' hl
    have hK1 := hl.keeps hKl
    refine (free_at b s e0 p (2 ^ p) _ _ k K O _ bf vf w' (hw.keeps hK1 (fun e => by have := hpos 0 e; omega)) (by have := hpos s (.inr (.inl rfl)); omega) (hl.tab hTl) rfl h.p3 (by have := h.p40; omega) h.inv (by omega) hin rfl
      (fun x q hx hq => List.mem_filter.2 ⟨(h.inv.mem q).2 ⟨x, hx⟩, by simpa using hq⟩)).mono ?_
    rintro e w2 ⟨he, hT2, hK2⟩
    have hinv := h.inv.take (by omega) hin
    have hlenf := List.length_filter_le (fun q => decide (q ≠ k)) O
    refine ⟨he, ⟨⟨hT2, hinv, by have := h.load; omega, h.p3, h.p40, by have := h.many; omega⟩, hK1.step hK2 (fun x _ hx => .inr (.inl hx))⟩, ?_⟩
    obtain ⟨ea, ec, hent⟩ := h.tab.key hk
    have hkb := h.tab.kb k hk
    have hw1 : w'.cell? ⟨bf k, 1, none⟩ = some (vf k) := by
      have h1 := ent_leave (a := node bf e0 O i) (c := node bf e0 O (i + 2)) (len := (O.length - 1 : Nat)) hent hkb.1
      rw [← hl.heap] at h1
      exact cell_of_block h1 1
    rw [← hw1]
    have hbl : bf k < w'.heap.size := World.block_lt_of_cell? _ _ hw1
    simp only [World.cell?, hK2.block _ hbl hkb.2.1]
  generalize slotN (2 ^ p) K (homeP p k) k = x at *
  generalize lookN (2 ^ p) K (homeP p k) k + 1 = L at *
  generalize leaveW w b (node bf e0 O i) (node bf e0 O (i + 2)) (O.length - 1 : Nat) = WL at *
  generalize vf k = V at *
  generalize bf k = B at *
  clear hTl hKl hef hin hvk hlen hik hi h hk
  go_enter Tryd.func67, Tryd.ntmps67
  go_wp2_with (first | (go_at_call 61; refine hm.mono ?_; rintro e w' ⟨rfl, rfl⟩) | (go_at_call 63; refine hf.mono ?_; rintro e w' ⟨rfl, rfl⟩))
  refine hlv.mono ?_
  rintro e w3 ⟨⟨v, rfl⟩, hl⟩
  go_wp2_with fail
  refine (hfree w3 hl).mono ?_
  rintro e w4 ⟨⟨v2, rfl⟩, hG, hc⟩
  go_wp2_with fail
  go_ret2
  exact ⟨rfl, hG.out⟩
end Go.Proofs.YtbgnlenhncbceaaDoor.I
