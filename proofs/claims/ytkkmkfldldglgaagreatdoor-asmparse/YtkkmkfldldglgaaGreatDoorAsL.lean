
/- Walk of line (package asm). No statement of the seat is proved here. -/
import Derived.Test.YtkkmkfldldglgaaGreatDoorAsK
namespace Go.Proofs.YtkkmkfldldglgaaGreatDoor
open Go.RowKit Go.Shelf

/-- What holds at the labels of line: 0, ahead of a word that may be a label; 2, ahead of a further word; 1, at the end of a line that is none. -/
def Ln0 (p n : Nat) (s : List UInt8) (r : Rd) (S : Nat → Prop) (base : Nat) (w0 : World) (l1 : List UInt8) (W : World) : Prop :=
  ∃ r1, RdAt W (fun k => S k ∨ w0.heap.size ≤ k) base p r1 ∧ Keeps S w0 W ∧ lineR r1 n (toks l1) = lineR r n (toks s) ∧ r1.code = r.code ∧ r1.uses = r.uses ∧ r1.labs.length + l1.length ≤ r.labs.length + s.length ∧ l1.length ≤ s.length
def Ln2 (p n : Nat) (s : List UInt8) (r : Rd) (S : Nat → Prop) (base : Nat) (w0 : World) (wd l1 : List UInt8) (vw : Value) (W : World) : Prop :=
  ∃ r1 M ws, RdAt W (fun k => (S k ∨ w0.heap.size ≤ k) ∧ k < M) base p r1 ∧ Keeps S w0 W ∧ finR r1 n (ws ++ tk wd l1) = lineR r n (toks s) ∧ r1.code = r.code ∧ r1.uses = r.uses ∧ Wds W M vw ws ∧ w0.heap.size ≤ M ∧ M ≤ W.heap.size ∧
    flatL ws + 2 * (wd.length + l1.length) ≤ 2 * s.length ∧ (∀ x ∈ ws, (32 : UInt8) ∉ x) ∧ (32 : UInt8) ∉ wd
def LnJ (p n : Nat) (s : List UInt8) (r : Rd) (S : Nat → Prop) (base : Nat) (w0 : World) : Nat → Act → World → Prop
  | 0, a, W => ∃ (l1 : List UInt8) (u1 u3 u4 u5 u6 u7 u10 u11 u12 u13 u14 u15 u16 u17 u18 u19 u20 u21 u22 u23 u24 u25 u26 u27 u28 u29 u30 u31 u32 u33 u34 u35 u36 u37 u38 u39 u40 u41 u42 u43 u44 u45 u46 u47 u48 u49 u50 u51 u52 u53 u54 u55 u56 : Value), a = { tmps := #[.pointer (some ⟨p, 0, none⟩), u1, .int .i64 (n : Int), u3, u4, u5, u6, u7, .slice none 0 0, .string ⟨l1.toArray⟩, u10, u11, u12, u13, u14, u15, u16, u17, u18, u19, u20, u21, u22, u23, u24, u25, u26, u27, u28, u29, u30, u31, u32, u33, u34, u35, u36, u37, u38, u39, u40, u41, u42, u43, u44, u45, u46, u47, u48, u49, u50, u51, u52, u53, u54, u55, u56], defers := [] } ∧ Ln0 p n s r S base w0 l1 W
  | 1, a, W => ∃ (u0 u1 u2 u3 u4 u5 u6 u7 u8 u9 u10 u11 u12 u13 u14 u15 u16 u17 u18 u19 u20 u21 u22 u23 u24 u25 u26 u27 u28 u29 u30 u31 u32 u33 u34 u35 u36 u37 u38 u39 u40 u41 u42 u43 u44 u45 u46 u47 u48 u49 u50 u51 u52 u53 u54 u55 u56 : Value), a = { tmps := #[u0, u1, u2, u3, u4, u5, u6, u7, u8, u9, u10, u11, u12, u13, u14, u15, u16, u17, u18, u19, u20, u21, u22, u23, u24, u25, u26, u27, u28, u29, u30, u31, u32, u33, u34, u35, u36, u37, u38, u39, u40, u41, u42, u43, u44, u45, u46, u47, u48, u49, u50, u51, u52, u53, u54, u55, u56], defers := [] } ∧ lineR r n (toks s) = none ∧ Keeps S w0 W
  | 2, a, W => ∃ (wd l1 : List UInt8) (vw : Value) (u1 u3 u4 u5 u6 u10 u11 u12 u13 u14 u15 u16 u17 u18 u19 u20 u21 u22 u23 u24 u25 u26 u27 u28 u29 u30 u31 u32 u33 u34 u35 u36 u37 u38 u39 u40 u41 u42 u43 u44 u45 u46 u47 u48 u49 u50 u51 u52 u53 u54 u55 u56 : Value), a = { tmps := #[.pointer (some ⟨p, 0, none⟩), u1, .int .i64 (n : Int), u3, u4, u5, u6, .string ⟨wd.toArray⟩, vw, .string ⟨l1.toArray⟩, u10, u11, u12, u13, u14, u15, u16, u17, u18, u19, u20, u21, u22, u23, u24, u25, u26, u27, u28, u29, u30, u31, u32, u33, u34, u35, u36, u37, u38, u39, u40, u41, u42, u43, u44, u45, u46, u47, u48, u49, u50, u51, u52, u53, u54, u55, u56], defers := [] } ∧ Ln2 p n s r S base w0 wd l1 vw W
  | _, _, _ => False
theorem info_str : (Tryz.prog.info? 9).map (fun i => (i.zero, i.size, i.bytes)) = some (some (.string ByteArray.empty), 1, 16) := by kernel_rfl
set_option maxRecDepth 100000 in
/-- A word more. -/
theorem Ln2.word {p n : Nat} {s : List UInt8} {r : Rd} {S : Nat → Prop} {base : Nat} {w0 : World} {wd l1 : List UInt8} {vw : Value} {W : World} (hL : Ln2 p n s r S base w0 wd l1 vw W) (hs : s.length ≤ 1073741824) (hne : wd ≠ []) :
    ∃ v' w1, (Builtin.append_ #[76, 76] 76 #[vw, .slice (some ⟨W.heap.size, 0, none⟩) 1 1]).run Tryz.prog (W.alloc (.cells #[.string ⟨wd.toArray⟩] 9)) = .ok v' w1 ∧ Keeps S w0 w1 ∧ ∀ W2, Keeps (fun _ => False) w1 W2 → Ln2 p n s r S base w0 (nextW l1).1 (nextW l1).2 v' W2 := by
  obtain ⟨r1, M, ws, g1, g2, g3, g4, g5, g6, g7, g8, g9, g10, g11⟩ := hL
  have hfl := flatL_len ws
  obtain ⟨v', w1, q1, q2, q3⟩ := own_push1 (P := Tryz.prog) W M 76 76 9 _ 1 16 Tryz.underlying76 info_str rfl (by decide) vw _ _ g6 [.string ⟨wd.toArray⟩] rfl (by simp [Value.oneCell']) (by omega) (by decide) g8
  have hk : Keeps S w0 w1 := g2.transB q3.keeps (fun q hq e => by
    have := (own_block g6 e).2; omega)
  have hnl := nextW_len l1
  refine ⟨v', w1, q1, hk, fun W2 k2 => ⟨r1, M, ws ++ [wd], ?_, hk.transB k2 (fun _ _ f => f.elim), ?_, g4, g5, ?_, g7, ?_, ?_, ?_, ?_⟩⟩
  · refine (g1.keeps q3.keeps (fun q hq e => ?_)).keeps k2 (fun _ _ f => f)
    have := (own_block g6 e).2
    omega
  · rw [← g3]
    congr 1
    rw [List.append_assoc, ← tk_next]
    unfold tk
    rw [if_neg hne]
    rfl
  · unfold Wds
    rw [List.length_append, List.map_append]
    exact own_keeps q2 k2 (fun _ _ f => f)
  · have := q3.keeps.size; have := k2.size; omega
  · rw [flatL_app]
    have := List.length_pos_iff.2 hne
    omega
  · intro x hx
    rcases List.mem_append.1 hx with hx | hx
    · exact g10 x hx
    · simp only [List.mem_singleton] at hx; subst hx; exact g11
  · intro h32
    have := (nextW_form l1).1 32 h32
    cases this
theorem Wds.form {w : World} {base : Nat} {v : Value} {ws : List (List UInt8)} (h : Wds w base v ws) : ∃ b c, v = .slice b ws.length c := by
  rcases h.2 with ⟨rfl, h2⟩ | ⟨g, cap, cur, rfl, _⟩
  · exact ⟨none, 0, by rw [h2]⟩
  · exact ⟨_, cap, rfl⟩
def lenOf : Value → Nat
  | .string b => b.size
  | _ => 0
def LnM : Nat → Act → World → Nat
  | 0, a, _ => lenOf (a.tmps.getD 9 undef) + 2
  | 2, a, _ => lenOf (a.tmps.getD 7 undef) + lenOf (a.tmps.getD 9 undef) + 1
  | _, _, _ => 0
theorem trimC_len (l : List UInt8) (c : UInt8) : (trimC l c).length ≤ l.length := by
  unfold trimC
  split
  · rw [List.length_dropLast]; omega
  · exact Nat.le_refl _
theorem bodyL_len (l : List UInt8) : (bodyL l).length ≤ l.length := Nat.le_trans (List.takeWhile_sublist _).length_le (trimC_len l 10)
/-- What line answers. -/
def LnPost (r : Rd) (s : List UInt8) (n : Nat) (S : Nat → Prop) (base p : Nat) (w : World) (e : Ending) (w' : World) : Prop := match lineR r n (toks s) with
  | some r' => e = .returned (.bool true) ∧ RdAt w' (fun k => S k ∨ w.heap.size ≤ k) base p r'
  | none => e = .returned (.bool false)

set_option maxRecDepth 100000 in
set_option maxHeartbeats 8000000 in
theorem line_any (l : List UInt8) (hl : l.length ≤ 1073741824) (n : Nat) (w : World) (S : Nat → Prop) (base p : Nat) (r : Rd) (hw : Gl w) (hbb : 0 < base ∧ lays147_ren.g 1 < base) (hSb : ∀ q, S q → base ≤ q) (h : RdAt w S base p r) (h1 : r.labs.length + l.length ≤ 1073741824) (h2 : r.uses.length ≤ 1073741824) (h3 : r.code.length ≤ 1073741824) :
    Calls Tryz.prog 67 #[.pointer (some ⟨p, 0, none⟩), .string ⟨l.toArray⟩, .int .i64 (n : Int)] w fun e w' => LnPost r (bodyL l) n S base p w e w' ∧ Keeps S w w' := by
  have TS := trimSuffix_any l (by omega)
  have CU := cut59_any (trimC l 10) (by have := trimC_len l 10; omega)
  have hbody : (trimC l 10).takeWhile (fun c => c != 59) = bodyL l := rfl
  have hbl := bodyL_len l
  rw [hbody] at CU
  have HR : Hid (RdAt w S base p r) := h
  have HGW : Hid (Gl w) := hw
  clear h hbody
  generalize bodyL l = s at *
  have GlK : ∀ W, Keeps S w W → Gl W := fun W k => hw.keepsB k base hbb hSb
  go_enter Tryz.func67, Tryz.ntmps67
  go_wp2_with fail
  refine scope_line (LnJ p n s r S base w) LnM rfl rfl rfl rfl rfl ?_ ?_ ?_ ?_ ?_
  · intro l a W hJ
    match l, hJ with
    | 0, _ => exact .inl rfl
    | 1, _ => exact .inr (.inl rfl)
    | 2, _ => exact .inr (.inr rfl)
  · intro K hK
    go_wp2_with fail
    refine (TS _).mono ?_
    rintro e w1 ⟨rfl, hw1⟩
    replace hw1 := hw1.symm
    subst hw1
    go_wp2_with fail
    refine (CU _ HGW.out).mono ?_
    rintro e w2 ⟨⟨x, b, rfl⟩, k2⟩
    have h0 : Ln0 p n s r S base w s w2 := ⟨r, (HR.out.keeps k2 (fun _ _ f => f)).mono (fun q hq => .inl hq), k2.mono (fun _ _ f => f.elim), rfl, rfl, rfl, Nat.le_refl _, Nat.le_refl _⟩
    go_wp2_with fail
    refine wp_label ?_
    go_wp2_with fail
    exact hK.out _ _ ⟨s, _, _, _, _, _, _, _, _, _, _, _, _, _, _, _, _, _, _, _, _, _, _, _, _, _, _, _, _, _, _, _, _, _, _, _, _, _, _, _, _, _, _, _, _, _, _, _, _, _, _, _, _, _, rfl, h0⟩
  · intro a W hJ K hK
    obtain ⟨l1, u1, u3, u4, u5, u6, u7, u10, u11, u12, u13, u14, u15, u16, u17, u18, u19, u20, u21, u22, u23, u24, u25, u26, u27, u28, u29, u30, u31, u32, u33, u34, u35, u36, u37, u38, u39, u40, u41, u42, u43, u44, u45, u46, u47, u48, u49, u50, u51, u52, u53, u54, u55, u56, rfl, hL⟩ := hJ
    obtain ⟨r1, g1, g2, g3, g4, g5, g6, g7⟩ := hL
    have NX := next_any l1 (by omega) W
    have hnl := nextW_len l1
    have htk := tk_next l1
    have hfm := nextW_form l1
    generalize hnx : nextW l1 = nx at *
    obtain ⟨wd, l2⟩ := nx
    dsimp only at NX hnl htk hfm
    have CS := cutSuffix_any wd 58 (by omega)
    have hM : LnM 0 { tmps := #[.pointer (some ⟨p, 0, none⟩), u1, .int .i64 (n : Int), u3, u4, u5, u6, u7, .slice none 0 0, .string ⟨l1.toArray⟩, u10, u11, u12, u13, u14, u15, u16, u17, u18, u19, u20, u21, u22, u23, u24, u25, u26, u27, u28, u29, u30, u31, u32, u33, u34, u35, u36, u37, u38, u39, u40, u41, u42, u43, u44, u45, u46, u47, u48, u49, u50, u51, u52, u53, u54, u55, u56], defers := [] } W = l1.length + 2 := by simp [LnM, lenOf, ByteArray.size]
    rw [hM] at hK ⊢
    have hNM := (GlK W g2).nms
    by_cases h58 : wd.getLast? = some 58
    · have e58 : decide (wd.getLast? = some 58) = true := by simpa using h58
      rw [e58] at CS
      have hne : wd ≠ [] := by rintro rfl; simp at h58
      have htrim : trimC wd 58 = wd.dropLast := by unfold trimC; rw [if_pos h58]
      rw [htrim] at CS
      have hlw : wd.dropLast.length + 1 = wd.length := by rw [List.length_dropLast]; have := List.length_pos_iff.2 hne; omega
      have hrun : lineR r1 n (toks l1) = (standR r1 wd.dropLast).bind fun r' => lineR r' n (toks l2) := by
        rw [htk]; unfold tk; rw [if_neg hne, lineR, if_pos h58]
      have ST : ∀ W2, Keeps (fun _ => False) W W2 → Calls Tryz.prog 86 #[.pointer (some ⟨p, 0, none⟩), .string ⟨wd.dropLast.toArray⟩] W2 fun e w' => StPost r1 wd.dropLast (fun k => S k ∨ w.heap.size ≤ k) base p W2 e w' ∧ Keeps (fun k => S k ∨ w.heap.size ≤ k) W2 w' := fun W2 k2 =>
        stand_any wd.dropLast (by omega) W2 _ base p r1 (GlK W2 (g2.transB k2 (fun _ _ f => f.elim))) (g1.keeps k2 (fun _ _ f => f)) (by omega) (by rw [g4]; omega)
      have HG : Hid (Keeps S w W ∧ (standR r1 wd.dropLast).bind (fun r' => lineR r' n (toks l2)) = lineR r n (toks s) ∧ r1.code = r.code ∧ r1.uses = r.uses ∧ r1.labs.length + l1.length ≤ r.labs.length + s.length ∧ l1.length ≤ s.length) := ⟨g2, by rw [← hrun]; exact g3, g4, g5, g6, g7⟩
      have HST : Hid (∀ W2, Keeps (fun _ => False) W W2 → Calls Tryz.prog 86 #[.pointer (some ⟨p, 0, none⟩), .string ⟨wd.dropLast.toArray⟩] W2 fun e w' => StPost r1 wd.dropLast (fun k => S k ∨ w.heap.size ≤ k) base p W2 e w' ∧ Keeps (fun k => S k ∨ w.heap.size ≤ k) W2 w') := ST
      clear hnx htk hfm g1 g2 g3 g4 g5 g6 g7 hrun htrim h58 e58 hK ST hM
      go_wp2_with fail
      refine NX.mono ?_
      rintro e w1 ⟨rfl, k1⟩
      go_wp2_with fail
      refine (CS _).mono ?_
      rintro e w1' ⟨rfl, hw1⟩
      replace hw1 := hw1.symm
      subst hw1
      go_wp2_with fail
      refine (HST.out w1 k1).mono ?_
      rintro e w2 ⟨hSP, k2⟩
      have hKS : Keeps S w w2 := (HG.out.1.transB k1 (fun _ _ f => f.elim)).transB k2 (fun q hq e => by
        rcases e with e | e
        · exact e
        · omega)
      unfold StPost at hSP
      cases hst : standR r1 wd.dropLast with
      | none =>
        rw [hst] at hSP
        obtain ⟨rfl, hrd⟩ := hSP
        have hfin : lineR r n (toks s) = none := by rw [← HG.out.2.1, hst]; rfl
        clear HG HST NX CS hst hrd k1 k2
        go_wp2_with fail
        refine wp_goto ?_
        go_wp2_with fail
        simp only [jumps]
        exact ⟨⟨_, _, _, _, _, _, _, _, _, _, _, _, _, _, _, _, _, _, _, _, _, _, _, _, _, _, _, _, _, _, _, _, _, _, _, _, _, _, _, _, _, _, _, _, _, _, _, _, _, _, _, _, _, _, _, _, _, rfl, hfin, hKS⟩, by simp [LnM]⟩
      | some r2 =>
        rw [hst] at hSP
        obtain ⟨rfl, hrd⟩ := hSP
        have h0 : Ln0 p n s r S base w l2 w2 := by
          obtain ⟨_, q2, q3, q4, q5, q6⟩ := HG.out
          rw [hst] at q2
          have hr2 : r2 = { r1 with labs := r1.labs ++ [(wd.dropLast, r1.code.length)] } := by
            unfold standR at hst
            split at hst
            · exact (Option.some.inj hst).symm
            · cases hst
          refine ⟨r2, hrd.mono (fun q hq => ?_), hKS, q2, by rw [hr2]; exact q3, by rw [hr2]; exact q4, by rw [hr2]; simp; omega, by omega⟩
          rcases hq with hq | hq
          · exact hq
          · have := HG.out.1.size; have := k1.size; exact .inr (by omega)
        clear HG HST NX CS hst hrd k1 k2 hKS
        go_wp2_with fail
        refine wp_goto ?_
        go_wp2_with fail
        simp only [jumps]
        exact ⟨⟨l2, _, _, _, _, _, _, _, _, _, _, _, _, _, _, _, _, _, _, _, _, _, _, _, _, _, _, _, _, _, _, _, _, _, _, _, _, _, _, _, _, _, _, _, _, _, _, _, _, _, _, _, _, _, rfl, h0⟩, by simp [LnM, lenOf, ByteArray.size]; omega⟩
    · have e58 : decide (wd.getLast? = some 58) = false := by simpa using h58
      rw [e58] at CS
      have h0 : Hid (∀ W2, Keeps (fun _ => False) W W2 → Ln2 p n s r S base w wd l2 (.slice none 0 0) W2) := fun W2 k2 => by
        have hr := g1.keeps k2 (fun _ _ f => f)
        refine ⟨r1, W2.heap.size, [], hr.below, g2.transB k2 (fun _ _ f => f.elim), ?_, g4, g5, ⟨rfl, .inl ⟨rfl, rfl⟩⟩, ?_, Nat.le_refl _, ?_, by simp, ?_⟩
        · rw [List.nil_append, ← fin_line h58, ← htk]; exact g3
        · have := g2.size; have := k2.size; omega
        · have : flatL [] = 0 := rfl
          omega
        · intro h32
          have := hfm.1 32 h32
          cases this
      clear hnx htk hfm g1 g2 g3 g4 g5 g6 g7 h58 e58 hM
      go_wp2_with fail
      refine NX.mono ?_
      rintro e w1 ⟨rfl, k1⟩
      go_wp2_with fail
      refine (CS _).mono ?_
      rintro e w1' ⟨rfl, hw1⟩
      replace hw1 := hw1.symm
      subst hw1
      go_wp2_with fail
      refine wp_label ?_
      go_wp2_with fail
      exact hK.out _ _ ⟨wd, l2, .slice none 0 0, _, _, _, _, _, _, _, _, _, _, _, _, _, _, _, _, _, _, _, _, _, _, _, _, _, _, _, _, _, _, _, _, _, _, _, _, _, _, _, _, _, _, _, _, _, _, _, _, _, _, _, _, rfl, h0.out w1 k1⟩ (by simp [LnM, lenOf, ByteArray.size]; omega)
  · intro a W hJ
    obtain ⟨wd, l1, vw, u1, u3, u4, u5, u6, u10, u11, u12, u13, u14, u15, u16, u17, u18, u19, u20, u21, u22, u23, u24, u25, u26, u27, u28, u29, u30, u31, u32, u33, u34, u35, u36, u37, u38, u39, u40, u41, u42, u43, u44, u45, u46, u47, u48, u49, u50, u51, u52, u53, u54, u55, u56, rfl, hL⟩ := hJ
    have hM : LnM 2 { tmps := #[.pointer (some ⟨p, 0, none⟩), u1, .int .i64 (n : Int), u3, u4, u5, u6, .string ⟨wd.toArray⟩, vw, .string ⟨l1.toArray⟩, u10, u11, u12, u13, u14, u15, u16, u17, u18, u19, u20, u21, u22, u23, u24, u25, u26, u27, u28, u29, u30, u31, u32, u33, u34, u35, u36, u37, u38, u39, u40, u41, u42, u43, u44, u45, u46, u47, u48, u49, u50, u51, u52, u53, u54, u55, u56], defers := [] } W = wd.length + l1.length + 1 := by simp [LnM, lenOf, ByteArray.size]
    rw [hM]
    have hsl : s.length ≤ 1073741824 := by omega
    obtain ⟨ws, vb, vc, rfl, hwl⟩ : ∃ ws b c, vw = .slice b (List.length (α := List UInt8) ws) c ∧ flatL ws + 2 * (wd.length + l1.length) ≤ 2 * s.length := by
      obtain ⟨r1, M, ws, g1, g2, g3, g4, g5, g6, g7, g8, g9, g10, g11⟩ := hL
      obtain ⟨b, c, rfl⟩ := g6.form
      exact ⟨ws, b, c, rfl, g9⟩
    by_cases hwd : wd = []
    · subst hwd
      obtain ⟨r1, M, ws', g1, g2, g3, g4, g5, g6, g7, g8, g9, g10, g11⟩ := hL
      have hll : ws'.length = ws.length := by
        obtain ⟨b, c, e⟩ := g6.form
        simp only [Value.slice.injEq] at e
        exact e.2.1.symm
      rw [← hll]
      have hte : tk [] l1 = [] := rfl
      rw [hte, List.append_nil] at g3
      by_cases hws : ws' = []
      · subst hws
        have hfin : LnPost r s n S base p w (.returned (.bool true)) W ∧ Keeps S w W := by
          refine ⟨?_, g2⟩
          unfold LnPost
          rw [← g3]
          exact ⟨rfl, g1.mono (fun q hq => hq.1)⟩
        clear g1 g2 g3 g4 g5 g6 g7 g8 g9 g10 g11 hwl hll hte hM
        go_wp2_with fail
        simp only [jumps]
        go_ret
        exact hfin
      · have hpos := List.length_pos_iff.2 hws
        have hfl := flatL_len ws'
        have hb0 := HR.out.base_le
        obtain ⟨gw, hgw⟩ : ∃ gw, (Value.slice vb ws.length vc).ownBlock = some gw := by
          obtain ⟨g, cap, cur, e, _⟩ := g6.cells hws
          rw [e]; exact ⟨g, rfl⟩
        have hgM := (own_block g6 hgw).2
        rw [← hll] at hgw
        rw [← hll] at g6
        have IN := instruction_any ws' n W (fun k => (S k ∨ w.heap.size ≤ k) ∧ k < M) base p r1 (.slice vb ws'.length vc) (GlK W g2) hbb (fun q hq => by
          rcases hq.1 with hq | hq
          · exact hSb q hq
          · omega) g1 (own_mono g6 (by omega)) hws gw hgw (fun hq => by have := hq.2; omega) g10 (by have := joinB_zeroed ws'; omega) (by rw [g5]; omega) (by rw [g4]; omega) (by omega) (by rw [g4]; omega)
        have hpi : (0 : Int) < ws'.length := by omega
        have HG : Hid (Keeps S w W ∧ insR r1 ws' n = lineR r n (toks s) ∧ w.heap.size ≤ M ∧ M ≤ gw ∧ w.heap.size ≤ W.heap.size) := ⟨g2, by rw [← g3]; unfold finR; rw [if_neg hws], g7, hgM, g2.size⟩
        clear g1 g2 g3 g4 g5 g6 g7 g8 g9 g10 g11 hwl hll hte hM
        go_wp2_with fail
        refine IN.mono ?_
        rintro e w2 ⟨hIP, k2⟩
        have hKS : Keeps S w w2 := HG.out.1.transB k2 (fun q hq e => by
          obtain ⟨_, _, q3, q4, _⟩ := HG.out
          rcases e with e | e
          · rcases e.1 with e | e
            · exact e
            · omega
          · omega)
        unfold InPost at hIP
        cases hin : insR r1 ws' n with
        | none =>
          rw [hin] at hIP
          subst hIP
          have hfin : lineR r n (toks s) = none := by rw [← HG.out.2.1, hin]
          clear HG IN k2
          go_wp2_with fail
          refine wp_goto ?_
          go_wp2_with fail
          simp only [jumps]
          exact ⟨⟨_, _, _, _, _, _, _, _, _, _, _, _, _, _, _, _, _, _, _, _, _, _, _, _, _, _, _, _, _, _, _, _, _, _, _, _, _, _, _, _, _, _, _, _, _, _, _, _, _, _, _, _, _, _, _, _, _, rfl, hfin, hKS⟩, by simp [LnM]⟩
        | some r2 =>
          rw [hin] at hIP
          obtain ⟨rfl, hrd⟩ := hIP
          have hfin : LnPost r s n S base p w (.returned (.bool true)) w2 := by
            unfold LnPost
            rw [← HG.out.2.1, hin]
            refine ⟨rfl, hrd.mono (fun q hq => ?_)⟩
            rcases hq with hq | hq
            · exact hq.1
            · have := HG.out.2.2.2.2; exact .inr (by omega)
          clear HG IN k2 hrd
          go_wp2_with fail
          simp only [jumps]
          go_ret
          exact ⟨hfin, hKS⟩
    · obtain ⟨v', w1, q1, q2, q3⟩ := hL.word hsl hwd
      have HA : Hid (_ = _) := q1
      have hemp : (ByteArray.toList ⟨wd.toArray⟩ != []) = true := by simpa using hwd
      have hemp2 : wd.isEmpty = false := by cases wd; exact absurd rfl hwd; rfl
      have NX := next_any l1 (by omega) w1
      have hnl := nextW_len l1
      have hwp := List.length_pos_iff.2 hwd
      have HQ : Hid (∀ W2, Keeps (fun _ => False) w1 W2 → Ln2 p n s r S base w (nextW l1).1 (nextW l1).2 v' W2) := q3
      clear q1 q2 q3 hL hM hwl
      generalize nextW l1 = nx at *
      obtain ⟨wd2, l2⟩ := nx
      dsimp only at NX hnl HQ
      go_wp2_with (at_builtin; refine wpList_append_run rfl _ _ 76 rfl rfl rfl HA.out ?_)
      refine NX.mono ?_
      rintro e w2 ⟨rfl, k2⟩
      have h2' := HQ.out w2 k2
      clear HQ NX HA
      go_wp2_with fail
      refine wp_goto ?_
      go_wp2_with fail
      simp only [jumps]
      exact ⟨⟨wd2, l2, v', _, _, _, _, _, _, _, _, _, _, _, _, _, _, _, _, _, _, _, _, _, _, _, _, _, _, _, _, _, _, _, _, _, _, _, _, _, _, _, _, _, _, _, _, _, _, _, _, _, _, _, _, rfl, h2'⟩, by simp [LnM, lenOf, ByteArray.size]; omega⟩
  · intro a W hJ
    obtain ⟨u0, u1, u2, u3, u4, u5, u6, u7, u8, u9, u10, u11, u12, u13, u14, u15, u16, u17, u18, u19, u20, u21, u22, u23, u24, u25, u26, u27, u28, u29, u30, u31, u32, u33, u34, u35, u36, u37, u38, u39, u40, u41, u42, u43, u44, u45, u46, u47, u48, u49, u50, u51, u52, u53, u54, u55, u56, rfl, hN, hk⟩ := hJ
    go_wp2_with fail
    simp only [jumps]
    go_ret
    exact ⟨by unfold LnPost; rw [hN]; rfl, hk⟩
end Go.Proofs.YtkkmkfldldglgaaGreatDoor
