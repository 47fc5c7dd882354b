/-
  No statement of the seat is proved here. (Several texts in one: AsL, ALoop2, ALoop3, AsM.)
-/
import Derived.Test.YtppejcfghlpbjaaGreatDoorM05AsG
import Derived.Test.YtppejcfghlpbjaaGreatDoorM04AsQ
import Derived.Lib.IndexLaws

/- Walk of line (package asm). No statement of the seat is proved here. -/
namespace Go.Proofs.YtppejcfghlpbjaaGreatDoor
open Go.RowKit Go.Shelf

/-- What holds at the labels of line: 0, ahead of a word that may be a label; 2, ahead of a further word; 1, at the end of a line that is none. -/
def Ln0 (p n : Nat) (s : List UInt8) (r : Rd) (S : Nat → Prop) (base : Nat) (w0 : World) (l1 : List UInt8) (W : World) : Prop :=
  ∃ r1, RdAt W (fun k => S k ∨ w0.heap.size ≤ k) base p r1 ∧ Keeps S w0 W ∧ lineR r1 n (toks l1) = lineR r n (toks s) ∧ r1.code = r.code ∧ r1.uses = r.uses ∧ r1.labs.length + l1.length ≤ r.labs.length + s.length ∧ l1.length ≤ s.length
def Ln2 (p n : Nat) (s : List UInt8) (r : Rd) (S : Nat → Prop) (base : Nat) (w0 : World) (wd l1 : List UInt8) (vw : Value) (W : World) : Prop :=
  ∃ r1 M ws, RdAt W (fun k => (S k ∨ w0.heap.size ≤ k) ∧ k < M) base p r1 ∧ Keeps S w0 W ∧ finR r1 n (ws ++ tk wd l1) = lineR r n (toks s) ∧ r1.code = r.code ∧ r1.uses = r.uses ∧ Wds W M vw ws ∧ w0.heap.size ≤ M ∧ M ≤ W.heap.size ∧
    flatL ws + 2 * (wd.length + l1.length) ≤ 2 * s.length ∧ (∀ x ∈ ws, (32 : UInt8) ∉ x) ∧ (32 : UInt8) ∉ wd
def LnJ (p n : Nat) (s : List UInt8) (r : Rd) (S : Nat → Prop) (base : Nat) (w0 : World) : Nat → Act → World → Prop
  | 0, a, W => ∃ (l1 : List UInt8) (u1 u3 u4 u5 u6 u7 u10 u11 u12 u13 u14 u15 u16 u17 u18 u19 u20 u21 u22 u23 u24 u25 u26 u27 u28 u29 u30 u31 u32 u33 u34 u35 u36 u37 u38 u39 u40 u41 u42 u43 u44 u45 u46 u47 u48 u49 u50 u51 u52 u53 u54 u55 u56 : Value), a = { tmps := #[.pointer (some ⟨p, 0, none⟩), u1, .int .i64 (n : Int), u3, u4, u5, u6, u7, .slice none 0 0, .string ⟨l1.toArray⟩, u10, u11, u12, u13, u14, u15, u16, u17, u18, u19, u20, u21, u22, u23, u24, u25, u26, u27, u28, u29, u30, u31, u32, u33, u34, u35, u36, u37, u38, u39, u40, u41, u42, u43, u44, u45, u46, u47, u48, u49, u50, u51, u52, u53, u54, u55, u56], defers := [] } ∧ Ln0 p n s r S base w0 l1 W
  | 1, a, W => ∃ (u0 u1 u2 u3 u4 u5 u6 u7 u8 u9 u10 u11 u12 u13 u14 u15 u16 u17 u18 u19 u20 u21 u22 u23 u24 u25 u26 u27 u28 u29 u30 u31 u32 u33 u34 u35 u36 u37 u38 u39 u40 u41 u42 u43 u44 u45 u46 u47 u48 u49 u50 u51 u52 u53 u54 u55 u56 : Value), a = { tmps := #[u0, u1, u2, u3, u4, u5, u6, u7, u8, u9, u10, u11, u12, u13, u14, u15, u16, u17, u18, u19, u20, u21, u22, u23, u24, u25, u26, u27, u28, u29, u30, u31, u32, u33, u34, u35, u36, u37, u38, u39, u40, u41, u42, u43, u44, u45, u46, u47, u48, u49, u50, u51, u52, u53, u54, u55, u56], defers := [] } ∧ lineR r n (toks s) = none ∧ Keeps S w0 W
  | 2, a, W => ∃ (wd l1 : List UInt8) (vw : Value) (u1 u3 u4 u5 u6 u10 u11 u12 u13 u14 u15 u16 u17 u18 u19 u20 u21 u22 u23 u24 u25 u26 u27 u28 u29 u30 u31 u32 u33 u34 u35 u36 u37 u38 u39 u40 u41 u42 u43 u44 u45 u46 u47 u48 u49 u50 u51 u52 u53 u54 u55 u56 : Value), a = { tmps := #[.pointer (some ⟨p, 0, none⟩), u1, .int .i64 (n : Int), u3, u4, u5, u6, .string ⟨wd.toArray⟩, vw, .string ⟨l1.toArray⟩, u10, u11, u12, u13, u14, u15, u16, u17, u18, u19, u20, u21, u22, u23, u24, u25, u26, u27, u28, u29, u30, u31, u32, u33, u34, u35, u36, u37, u38, u39, u40, u41, u42, u43, u44, u45, u46, u47, u48, u49, u50, u51, u52, u53, u54, u55, u56], defers := [] } ∧ Ln2 p n s r S base w0 wd l1 vw W
  | _, _, _ => False
theorem info_str : (Tryz.prog.info? 9).map (fun i => (i.zero, i.size, i.bytes)) = some (some (.string ByteArray.empty), 1, 16) := by kernel_rfl
set_option maxRecDepth 100000 in
/-- A word more. -/
theorem Ln2.word {p n : Nat} {s : List UInt8} {r : Rd} {S : Nat → Prop} {base : Nat} {w0 : World} {wd l1 : List UInt8} {vw : Value} {W : World} (hL : Ln2 p n s r S base w0 wd l1 vw W) (hs : s.length ≤ 1073741824) (hne : wd ≠ []) :
    ∃ v' w1, (Builtin.append_ #[106, 106] 106 #[vw, .slice (some ⟨W.heap.size, 0, none⟩) 1 1]).run Tryz.prog (W.alloc (.cells #[.string ⟨wd.toArray⟩] 9)) = .ok v' w1 ∧ Keeps S w0 w1 ∧ ∀ W2, Keeps (fun _ => False) w1 W2 → Ln2 p n s r S base w0 (nextW l1).1 (nextW l1).2 v' W2 := by
  obtain ⟨r1, M, ws, g1, g2, g3, g4, g5, g6, g7, g8, g9, g10, g11⟩ := hL
  have hfl := flatL_len ws
  obtain ⟨v', w1, q1, q2, q3⟩ := own_push1 (P := Tryz.prog) W M 106 106 9 _ 1 16 Tryz.underlying106 info_str rfl (by decide) vw _ _ g6 [.string ⟨wd.toArray⟩] rfl (by simp [Value.oneCell']) (by omega) (by decide) g8
  have hk : Keeps S w0 w1 := g2.transB q3.keeps (fun q hq e => by
    have := (own_block g6 e).2; omega)
  have hnl := nextW_len l1
  refine ⟨v', w1, q1, hk, fun W2 k2 => ⟨r1, M, ws ++ [wd], ?_, hk.transB k2 (fun _ _ f => f.elim), ?_, g4, g5, ?_, g7, ?_, ?_, ?_, ?_⟩⟩
  · refine (g1.keeps q3.keeps (fun q hq e => ?_)).keeps k2 (fun _ _ f => f)
    have := (own_block g6 e).2
    omega
  · rw [← g3]
    congr 1
    rw [List.append_assoc, ← tk_next]
    unfold tk
    rw [if_neg hne]
    rfl
  · unfold Wds
    rw [List.length_append, List.map_append]
    exact own_keeps q2 k2 (fun _ _ f => f)
  · have := q3.keeps.size; have := k2.size; omega
  · rw [flatL_app]
    have := List.length_pos_iff.2 hne
    omega
  · intro x hx
    rcases List.mem_append.1 hx with hx | hx
    · exact g10 x hx
    · simp only [List.mem_singleton] at hx; subst hx; exact g11
  · intro h32
    have := (nextW_form l1).1 32 h32
    cases this
theorem Wds.form {w : World} {base : Nat} {v : Value} {ws : List (List UInt8)} (h : Wds w base v ws) : ∃ b c, v = .slice b ws.length c := by
  rcases h.2 with ⟨rfl, h2⟩ | ⟨g, cap, cur, rfl, _⟩
  · exact ⟨none, 0, by rw [h2]⟩
  · exact ⟨_, cap, rfl⟩
def lenOf : Value → Nat
  | .string b => b.size
  | _ => 0
def LnM : Nat → Act → World → Nat
  | 0, a, _ => lenOf (a.tmps.getD 9 undef) + 2
  | 2, a, _ => lenOf (a.tmps.getD 7 undef) + lenOf (a.tmps.getD 9 undef) + 1
  | _, _, _ => 0
theorem trimC_len (l : List UInt8) (c : UInt8) : (trimC l c).length ≤ l.length := by
  unfold trimC
  split
  · rw [List.length_dropLast]; omega
  · exact Nat.le_refl _
theorem bodyL_len (l : List UInt8) : (bodyL l).length ≤ l.length := Nat.le_trans (List.takeWhile_sublist _).length_le (trimC_len l 10)
/-- What line answers. -/
def LnPost (r : Rd) (s : List UInt8) (n : Nat) (S : Nat → Prop) (base p : Nat) (w : World) (e : Ending) (w' : World) : Prop := match lineR r n (toks s) with
  | some r' => e = .returned (.bool true) ∧ RdAt w' (fun k => S k ∨ w.heap.size ≤ k) base p r'
  | none => e = .returned (.bool false)

set_option maxRecDepth 100000 in
set_option maxHeartbeats 8000000 in
theorem line_any (l : List UInt8) (hl : l.length ≤ 1073741824) (n : Nat) (w : World) (S : Nat → Prop) (base p : Nat) (r : Rd) (hw : Gl w) (hbb : 0 < base ∧ lays147_ren.g 1 < base) (hSb : ∀ q, S q → base ≤ q) (h : RdAt w S base p r) (h1 : r.labs.length + l.length ≤ 1073741824) (h2 : r.uses.length ≤ 1073741824) (h3 : r.code.length ≤ 1073741824) :
    Calls Tryz.prog 52 #[.pointer (some ⟨p, 0, none⟩), .string ⟨l.toArray⟩, .int .i64 (n : Int)] w fun e w' => LnPost r (bodyL l) n S base p w e w' ∧ Keeps S w w' := by
  have TS := trimSuffix_any l (by omega)
  have CU := cut59_any (trimC l 10) (by have := trimC_len l 10; omega)
  have hbody : (trimC l 10).takeWhile (fun c => c != 59) = bodyL l := rfl
  have hbl := bodyL_len l
  rw [hbody] at CU
  have HR : Hid (RdAt w S base p r) := h
  have HGW : Hid (Gl w) := hw
  clear h hbody
  generalize bodyL l = s at *
  have GlK : ∀ W, Keeps S w W → Gl W := fun W k => hw.keepsB k base hbb hSb
  go_enter Tryz.func52, Tryz.ntmps52
  go_wp2_with fail
  refine scope_line (LnJ p n s r S base w) LnM rfl rfl rfl rfl rfl ?_ ?_ ?_ ?_ ?_
  · intro l a W hJ
    match l, hJ with
    | 0, _ => exact .inl rfl
    | 1, _ => exact .inr (.inl rfl)
    | 2, _ => exact .inr (.inr rfl)
  · intro K hK
    go_wp2_with fail
    refine (TS _).mono ?_
    rintro e w1 ⟨rfl, hw1⟩
    replace hw1 := hw1.symm
    subst hw1
    go_wp2_with fail
    refine (CU _ HGW.out).mono ?_
    rintro e w2 ⟨⟨x, b, rfl⟩, k2⟩
    have h0 : Ln0 p n s r S base w s w2 := ⟨r, (HR.out.keeps k2 (fun _ _ f => f)).mono (fun q hq => .inl hq), k2.mono (fun _ _ f => f.elim), rfl, rfl, rfl, Nat.le_refl _, Nat.le_refl _⟩
    go_wp2_with fail
    refine wp_label ?_
    go_wp2_with fail
    exact hK.out _ _ ⟨s, _, _, _, _, _, _, _, _, _, _, _, _, _, _, _, _, _, _, _, _, _, _, _, _, _, _, _, _, _, _, _, _, _, _, _, _, _, _, _, _, _, _, _, _, _, _, _, _, _, _, _, _, _, rfl, h0⟩
  · intro a W hJ K hK
    obtain ⟨l1, u1, u3, u4, u5, u6, u7, u10, u11, u12, u13, u14, u15, u16, u17, u18, u19, u20, u21, u22, u23, u24, u25, u26, u27, u28, u29, u30, u31, u32, u33, u34, u35, u36, u37, u38, u39, u40, u41, u42, u43, u44, u45, u46, u47, u48, u49, u50, u51, u52, u53, u54, u55, u56, rfl, hL⟩ := hJ
    obtain ⟨r1, g1, g2, g3, g4, g5, g6, g7⟩ := hL
    have NX := next_any l1 (by omega) W
    have hnl := nextW_len l1
    have htk := tk_next l1
    have hfm := nextW_form l1
    generalize hnx : nextW l1 = nx at *
    obtain ⟨wd, l2⟩ := nx
    dsimp only at NX hnl htk hfm
    have CS := cutSuffix_any wd 58 (by omega)
    have hM : LnM 0 { tmps := #[.pointer (some ⟨p, 0, none⟩), u1, .int .i64 (n : Int), u3, u4, u5, u6, u7, .slice none 0 0, .string ⟨l1.toArray⟩, u10, u11, u12, u13, u14, u15, u16, u17, u18, u19, u20, u21, u22, u23, u24, u25, u26, u27, u28, u29, u30, u31, u32, u33, u34, u35, u36, u37, u38, u39, u40, u41, u42, u43, u44, u45, u46, u47, u48, u49, u50, u51, u52, u53, u54, u55, u56], defers := [] } W = l1.length + 2 := by simp [LnM, lenOf, ByteArray.size]
    rw [hM] at hK ⊢
    have hNM := (GlK W g2).nms
    by_cases h58 : wd.getLast? = some 58
    · have e58 : decide (wd.getLast? = some 58) = true := by simpa using h58
      rw [e58] at CS
      have hne : wd ≠ [] := by rintro rfl; simp at h58
      have htrim : trimC wd 58 = wd.dropLast := by unfold trimC; rw [if_pos h58]
      rw [htrim] at CS
      have hlw : wd.dropLast.length + 1 = wd.length := by rw [List.length_dropLast]; have := List.length_pos_iff.2 hne; omega
      have hrun : lineR r1 n (toks l1) = (standR r1 wd.dropLast).bind fun r' => lineR r' n (toks l2) := by
        rw [htk]; unfold tk; rw [if_neg hne, lineR, if_pos h58]
      have ST : ∀ W2, Keeps (fun _ => False) W W2 → Calls Tryz.prog 73 #[.pointer (some ⟨p, 0, none⟩), .string ⟨wd.dropLast.toArray⟩] W2 fun e w' => StPost r1 wd.dropLast (fun k => S k ∨ w.heap.size ≤ k) base p W2 e w' ∧ Keeps (fun k => S k ∨ w.heap.size ≤ k) W2 w' := fun W2 k2 =>
        stand_any wd.dropLast (by omega) W2 _ base p r1 (GlK W2 (g2.transB k2 (fun _ _ f => f.elim))) (g1.keeps k2 (fun _ _ f => f)) (by omega) (by rw [g4]; omega)
      have HG : Hid (Keeps S w W ∧ (standR r1 wd.dropLast).bind (fun r' => lineR r' n (toks l2)) = lineR r n (toks s) ∧ r1.code = r.code ∧ r1.uses = r.uses ∧ r1.labs.length + l1.length ≤ r.labs.length + s.length ∧ l1.length ≤ s.length) := ⟨g2, by rw [← hrun]; exact g3, g4, g5, g6, g7⟩
      have HST : Hid (∀ W2, Keeps (fun _ => False) W W2 → Calls Tryz.prog 73 #[.pointer (some ⟨p, 0, none⟩), .string ⟨wd.dropLast.toArray⟩] W2 fun e w' => StPost r1 wd.dropLast (fun k => S k ∨ w.heap.size ≤ k) base p W2 e w' ∧ Keeps (fun k => S k ∨ w.heap.size ≤ k) W2 w') := ST
      clear hnx htk hfm g1 g2 g3 g4 g5 g6 g7 hrun htrim h58 e58 hK ST hM
      go_wp2_with fail
      refine NX.mono ?_
      rintro e w1 ⟨rfl, k1⟩
      go_wp2_with fail
      refine (CS _).mono ?_
      rintro e w1' ⟨rfl, hw1⟩
      replace hw1 := hw1.symm
      subst hw1
      go_wp2_with fail
      refine (HST.out w1 k1).mono ?_
      rintro e w2 ⟨hSP, k2⟩
      have hKS : Keeps S w w2 := (HG.out.1.transB k1 (fun _ _ f => f.elim)).transB k2 (fun q hq e => by
        rcases e with e | e
        · exact e
        · omega)
      unfold StPost at hSP
      cases hst : standR r1 wd.dropLast with
      | none =>
        rw [hst] at hSP
        obtain ⟨rfl, hrd⟩ := hSP
        have hfin : lineR r n (toks s) = none := by rw [← HG.out.2.1, hst]; rfl
        clear HG HST NX CS hst hrd k1 k2
        go_wp2_with fail
        refine wp_goto ?_
        go_wp2_with fail
        simp only [jumps]
        exact ⟨⟨_, _, _, _, _, _, _, _, _, _, _, _, _, _, _, _, _, _, _, _, _, _, _, _, _, _, _, _, _, _, _, _, _, _, _, _, _, _, _, _, _, _, _, _, _, _, _, _, _, _, _, _, _, _, _, _, _, rfl, hfin, hKS⟩, by simp [LnM]⟩
      | some r2 =>
        rw [hst] at hSP
        obtain ⟨rfl, hrd⟩ := hSP
        have h0 : Ln0 p n s r S base w l2 w2 := by
          obtain ⟨_, q2, q3, q4, q5, q6⟩ := HG.out
          rw [hst] at q2
          have hr2 : r2 = { r1 with labs := r1.labs ++ [(wd.dropLast, r1.code.length)] } := by
            unfold standR at hst
            split at hst
            · exact (Option.some.inj hst).symm
            · cases hst
          refine ⟨r2, hrd.mono (fun q hq => ?_), hKS, q2, by rw [hr2]; exact q3, by rw [hr2]; exact q4, by rw [hr2]; simp; omega, by omega⟩
          rcases hq with hq | hq
          · exact hq
          · have := HG.out.1.size; have := k1.size; exact .inr (by omega)
        clear HG HST NX CS hst hrd k1 k2 hKS
        go_wp2_with fail
        refine wp_goto ?_
        go_wp2_with fail
        simp only [jumps]
        exact ⟨⟨l2, _, _, _, _, _, _, _, _, _, _, _, _, _, _, _, _, _, _, _, _, _, _, _, _, _, _, _, _, _, _, _, _, _, _, _, _, _, _, _, _, _, _, _, _, _, _, _, _, _, _, _, _, _, rfl, h0⟩, by simp [LnM, lenOf, ByteArray.size]; omega⟩
    · have e58 : decide (wd.getLast? = some 58) = false := by simpa using h58
      rw [e58] at CS
      have h0 : Hid (∀ W2, Keeps (fun _ => False) W W2 → Ln2 p n s r S base w wd l2 (.slice none 0 0) W2) := fun W2 k2 => by
        have hr := g1.keeps k2 (fun _ _ f => f)
        refine ⟨r1, W2.heap.size, [], hr.below, g2.transB k2 (fun _ _ f => f.elim), ?_, g4, g5, ⟨rfl, .inl ⟨rfl, rfl⟩⟩, ?_, Nat.le_refl _, ?_, by simp, ?_⟩
        · rw [List.nil_append, ← fin_line h58, ← htk]; exact g3
        · have := g2.size; have := k2.size; omega
        · have : flatL [] = 0 := rfl
          omega
        · intro h32
          have := hfm.1 32 h32
          cases this
      clear hnx htk hfm g1 g2 g3 g4 g5 g6 g7 h58 e58 hM
      go_wp2_with fail
      refine NX.mono ?_
      rintro e w1 ⟨rfl, k1⟩
      go_wp2_with fail
      refine (CS _).mono ?_
      rintro e w1' ⟨rfl, hw1⟩
      replace hw1 := hw1.symm
      subst hw1
      go_wp2_with fail
      refine wp_label ?_
      go_wp2_with fail
      exact hK.out _ _ ⟨wd, l2, .slice none 0 0, _, _, _, _, _, _, _, _, _, _, _, _, _, _, _, _, _, _, _, _, _, _, _, _, _, _, _, _, _, _, _, _, _, _, _, _, _, _, _, _, _, _, _, _, _, _, _, _, _, _, _, _, rfl, h0.out w1 k1⟩ (by simp [LnM, lenOf, ByteArray.size]; omega)
  · intro a W hJ
    obtain ⟨wd, l1, vw, u1, u3, u4, u5, u6, u10, u11, u12, u13, u14, u15, u16, u17, u18, u19, u20, u21, u22, u23, u24, u25, u26, u27, u28, u29, u30, u31, u32, u33, u34, u35, u36, u37, u38, u39, u40, u41, u42, u43, u44, u45, u46, u47, u48, u49, u50, u51, u52, u53, u54, u55, u56, rfl, hL⟩ := hJ
    have hM : LnM 2 { tmps := #[.pointer (some ⟨p, 0, none⟩), u1, .int .i64 (n : Int), u3, u4, u5, u6, .string ⟨wd.toArray⟩, vw, .string ⟨l1.toArray⟩, u10, u11, u12, u13, u14, u15, u16, u17, u18, u19, u20, u21, u22, u23, u24, u25, u26, u27, u28, u29, u30, u31, u32, u33, u34, u35, u36, u37, u38, u39, u40, u41, u42, u43, u44, u45, u46, u47, u48, u49, u50, u51, u52, u53, u54, u55, u56], defers := [] } W = wd.length + l1.length + 1 := by simp [LnM, lenOf, ByteArray.size]
    rw [hM]
    have hsl : s.length ≤ 1073741824 := by omega
    obtain ⟨ws, vb, vc, rfl, hwl⟩ : ∃ ws b c, vw = .slice b (List.length (α := List UInt8) ws) c ∧ flatL ws + 2 * (wd.length + l1.length) ≤ 2 * s.length := by
      obtain ⟨r1, M, ws, g1, g2, g3, g4, g5, g6, g7, g8, g9, g10, g11⟩ := hL
      obtain ⟨b, c, rfl⟩ := g6.form
      exact ⟨ws, b, c, rfl, g9⟩
    by_cases hwd : wd = []
    · subst hwd
      obtain ⟨r1, M, ws', g1, g2, g3, g4, g5, g6, g7, g8, g9, g10, g11⟩ := hL
      have hll : ws'.length = ws.length := by
        obtain ⟨b, c, e⟩ := g6.form
        simp only [Value.slice.injEq] at e
        exact e.2.1.symm
      rw [← hll]
      have hte : tk [] l1 = [] := rfl
      rw [hte, List.append_nil] at g3
      by_cases hws : ws' = []
      · subst hws
        have hfin : LnPost r s n S base p w (.returned (.bool true)) W ∧ Keeps S w W := by
          refine ⟨?_, g2⟩
          unfold LnPost
          rw [← g3]
          exact ⟨rfl, g1.mono (fun q hq => hq.1)⟩
        clear g1 g2 g3 g4 g5 g6 g7 g8 g9 g10 g11 hwl hll hte hM
        go_wp2_with fail
        simp only [jumps]
        go_ret
        exact hfin
      · have hpos := List.length_pos_iff.2 hws
        have hfl := flatL_len ws'
        have hb0 := HR.out.base_le
        obtain ⟨gw, hgw⟩ : ∃ gw, (Value.slice vb ws.length vc).ownBlock = some gw := by
          obtain ⟨g, cap, cur, e, _⟩ := g6.cells hws
          rw [e]; exact ⟨g, rfl⟩
        have hgM := (own_block g6 hgw).2
        rw [← hll] at hgw
        rw [← hll] at g6
        have IN := instruction_any ws' n W (fun k => (S k ∨ w.heap.size ≤ k) ∧ k < M) base p r1 (.slice vb ws'.length vc) (GlK W g2) hbb (fun q hq => by
          rcases hq.1 with hq | hq
          · exact hSb q hq
          · omega) g1 (own_mono g6 (by omega)) hws gw hgw (fun hq => by have := hq.2; omega) g10 (by have := joinB_zeroed ws'; omega) (by rw [g5]; omega) (by rw [g4]; omega) (by omega) (by rw [g4]; omega)
        have hpi : (0 : Int) < ws'.length := by omega
        have HG : Hid (Keeps S w W ∧ insR r1 ws' n = lineR r n (toks s) ∧ w.heap.size ≤ M ∧ M ≤ gw ∧ w.heap.size ≤ W.heap.size) := ⟨g2, by rw [← g3]; unfold finR; rw [if_neg hws], g7, hgM, g2.size⟩
        clear g1 g2 g3 g4 g5 g6 g7 g8 g9 g10 g11 hwl hll hte hM
        go_wp2_with fail
        refine IN.mono ?_
        rintro e w2 ⟨hIP, k2⟩
        have hKS : Keeps S w w2 := HG.out.1.transB k2 (fun q hq e => by
          obtain ⟨_, _, q3, q4, _⟩ := HG.out
          rcases e with e | e
          · rcases e.1 with e | e
            · exact e
            · omega
          · omega)
        unfold InPost at hIP
        cases hin : insR r1 ws' n with
        | none =>
          rw [hin] at hIP
          subst hIP
          have hfin : lineR r n (toks s) = none := by rw [← HG.out.2.1, hin]
          clear HG IN k2
          go_wp2_with fail
          refine wp_goto ?_
          go_wp2_with fail
          simp only [jumps]
          exact ⟨⟨_, _, _, _, _, _, _, _, _, _, _, _, _, _, _, _, _, _, _, _, _, _, _, _, _, _, _, _, _, _, _, _, _, _, _, _, _, _, _, _, _, _, _, _, _, _, _, _, _, _, _, _, _, _, _, _, _, rfl, hfin, hKS⟩, by simp [LnM]⟩
        | some r2 =>
          rw [hin] at hIP
          obtain ⟨rfl, hrd⟩ := hIP
          have hfin : LnPost r s n S base p w (.returned (.bool true)) w2 := by
            unfold LnPost
            rw [← HG.out.2.1, hin]
            refine ⟨rfl, hrd.mono (fun q hq => ?_)⟩
            rcases hq with hq | hq
            · exact hq.1
            · have := HG.out.2.2.2.2; exact .inr (by omega)
          clear HG IN k2 hrd
          go_wp2_with fail
          simp only [jumps]
          go_ret
          exact ⟨hfin, hKS⟩
    · obtain ⟨v', w1, q1, q2, q3⟩ := hL.word hsl hwd
      have HA : Hid (_ = _) := q1
      have hemp : (ByteArray.toList ⟨wd.toArray⟩ != []) = true := by simpa using hwd
      have hemp2 : wd.isEmpty = false := by cases wd; exact absurd rfl hwd; rfl
      have NX := next_any l1 (by omega) w1
      have hnl := nextW_len l1
      have hwp := List.length_pos_iff.2 hwd
      have HQ : Hid (∀ W2, Keeps (fun _ => False) w1 W2 → Ln2 p n s r S base w (nextW l1).1 (nextW l1).2 v' W2) := q3
      clear q1 q2 q3 hL hM hwl
      generalize nextW l1 = nx at *
      obtain ⟨wd2, l2⟩ := nx
      dsimp only at NX hnl HQ
      go_wp2_with (at_builtin; refine wpList_append_run rfl _ _ 106 rfl rfl rfl HA.out ?_)
      refine NX.mono ?_
      rintro e w2 ⟨rfl, k2⟩
      have h2' := HQ.out w2 k2
      clear HQ NX HA
      go_wp2_with fail
      refine wp_goto ?_
      go_wp2_with fail
      simp only [jumps]
      exact ⟨⟨wd2, l2, v', _, _, _, _, _, _, _, _, _, _, _, _, _, _, _, _, _, _, _, _, _, _, _, _, _, _, _, _, _, _, _, _, _, _, _, _, _, _, _, _, _, _, _, _, _, _, _, _, _, _, _, _, rfl, h2'⟩, by simp [LnM, lenOf, ByteArray.size]; omega⟩
  · intro a W hJ
    obtain ⟨u0, u1, u2, u3, u4, u5, u6, u7, u8, u9, u10, u11, u12, u13, u14, u15, u16, u17, u18, u19, u20, u21, u22, u23, u24, u25, u26, u27, u28, u29, u30, u31, u32, u33, u34, u35, u36, u37, u38, u39, u40, u41, u42, u43, u44, u45, u46, u47, u48, u49, u50, u51, u52, u53, u54, u55, u56, rfl, hN, hk⟩ := hJ
    go_wp2_with fail
    simp only [jumps]
    go_ret
    exact ⟨by unfold LnPost; rw [hN]; rfl, hk⟩
end Go.Proofs.YtppejcfghlpbjaaGreatDoor


/-
  A loop over a function whose rounds may count on more than cells: what the loop's own book-keeping turns is its record, and nothing else. No statement of the seat is proved here.
-/
namespace Go.Proofs.YtppejcfghlpbjaaGreatDoor
open Go.RowKit Go.Shelf

section
variable {F : Fence} {n : Nat} {P : Program} {α : Type}

/-- What a round begins and ends with: the loop's record, the block of deferred calls. -/
structure Book (w W : World) (r : Loop) : Prop where
  book : W.heap[w.heap.size + 1]? = some (.loop r)
  held : W.heap[w.heap.size]? = some (.deferred (some []))

theorem Book.put {w W : World} {r : Loop} (h : Book w W r) (r' : Loop) : Book w (W.putObj (w.heap.size + 1) (.loop r')) r' :=
  ⟨World.putObj_heap_same (Array.getElem?_eq_some_iff.1 h.book).1, (World.putObj_heap_other (by omega)).trans h.held⟩
theorem Book.keeps {w W W' : World} {r : Loop} (h : Book w W r) (k : KeepsFrom w.heap.size W W') : Book w W' r :=
  ⟨k.same _ _ (by omega) h.book rfl, k.same _ _ (Nat.le_refl _) h.held rfl⟩
/-- Blocks of deferred calls from B on are as they were. -/
def HeldOn (B : Nat) (W W' : World) : Prop := ∀ k x, B ≤ k → W.heap[k]? = some (.deferred x) → W'.heap[k]? = some (.deferred x)

/-- What a function that is ranged over does, for whatever the caller holds that no turn of a block of the function's own can break. -/
def SeqOwn (F : Fence) (n : Nat) (P : Program) (g : Nat) (lb : Array Value) (encs : α → Array Value) (Kp : World → World → Prop) (S Sp : List α → Prop) (N : Nat) (w : World) : Prop :=
  ∀ (l : Nat) (J Jx : List α → World → Prop) (W : World), Below w.heap.size w W → OwnFrom W.heap.size J → OwnFrom W.heap.size Jx →
    (∀ pre x W1, J pre W1 → pre.length < N → YieldAt F (n - 1) P l (encs x) W1 fun e W' => (e = .returned (.bool true) ∧ J (pre ++ [x]) W' ∧ Kp W1 W') ∨ (e = .returned (.bool false) ∧ Jx (pre ++ [x]) W' ∧ HeldOn W.heap.size W1 W')) →
    J [] W → CallsIn F n P g (#[.func (.yield l) #[] #[]] ++ lb) W fun e W' => (∃ v, e = .returned v) ∧ ((∃ xs, S xs ∧ J xs W') ∨ (∃ pre, Sp pre ∧ Jx pre W'))

theorem Book.own {w W : World} {r : Loop} (hsz : w.heap.size + 2 ≤ W.heap.size) : OwnFrom W.heap.size (fun (_ : Unit) X => Book w X r) := by
  rintro _ A B row hb hgr hr
  have lt1 := (Array.getElem?_eq_some_iff.1 hb.book).1
  exact ⟨(hgr.block _ lt1 (fun e => by have := (hr _ e.symm).1; omega)).trans hb.book, (hgr.block _ (by omega) (fun e => by have := (hr _ e.symm).1; omega)).trans hb.held⟩

/-- The loop, where Kp need abide nothing but a turn of the loop's own record. -/
theorem range_own {g : Operand} {ps : Array Tmp} {assign body : Code} {Q : Exit → Act → World → Prop} {a : Act} {w : World} (hro : F.round = none) (h1 : 1 ≤ n) {gf : Nat} {lb : Array Value} (hg : a.eval g = .func (.func gf) #[] lb) (hFg : F.fn gf)
    (eg : ∀ args w, (callFunc gf args).run P w = .ok (.enter gf args) w) {encs : α → Array Value} {Kp : World → World → Prop} {S Sp : List α → Prop} {N : Nat} {w0 : World} (hseq : SeqOwn F (n - 1) P gf lb encs Kp S Sp N w0) (hb0 : Below w0.heap.size w0 w)
    (hKt : ∀ {A B C : World}, Kp A B → Kp B C → Kp A C) (hKl : ∀ (W : World) (r r' : Loop), W.heap[w.heap.size + 1]? = some (.loop r) → Kp W (W.putObj (w.heap.size + 1) (.loop r'))) (hps : ∀ x, (encs x).size = ps.size)
    (I : List α → World → Prop) (Ix : Code → List α → World → Prop) (hI : OwnFrom w.heap.size I) (hIx : ∀ c, OwnFrom w.heap.size (Ix c)) (h0 : I [] w) (a₁ : α → Act)
    (hassign : ∀ (l : Nat) (x : α) (W : World) (K : Act → World → Prop), K (a₁ x) W →
      assign.wpIn (F.inRound l) (n - 1 - 1) P (Exit.then K (fun _ _ _ => False)) { tmps := (ps.zip (encs x)).foldl (fun t (p, v) => t.setIfInBounds p v) a.tmps, defers := [] } W)
    (hbody : ∀ (l : Nat) (pre : List α) (x : α) (W : World), I pre W → pre.length < N → body.wpIn (F.inRound l) (n - 1 - 1) P (ownPostG w.heap.size Kp I Ix (pre ++ [x]) W) (a₁ x) W)
    (hdone : ∀ (xs : List α) (W : World), S xs → I xs W → W.heap[w.heap.size]? = some (.deferred (some [])) → Q .normal { a with defers := { target := .collected w.heap.size, args := #[] } :: a.defers } W)
    (hstop : ∀ (c : Code) (pre : List α) (W : World), Sp pre → Ix c pre W → W.heap[w.heap.size]? = some (.deferred (some [])) → c.wpIn F n P Q { a with defers := { target := .collected w.heap.size, args := #[] } :: a.defers } W) :
    (Code.rangeFunc g ps assign body).wpIn F n P Q a w := by
  refine wpIn_rangeFunc fun fn hfn => ?_
  rw [hro]
  let rc : LoopState → Option Code → Loop := fun st pe => { state := st, pending := pe, fn, tmps := a.tmps, params := ps, assign, body, defers := w.heap.size }
  obtain ⟨W1, hW1⟩ : ∃ W1, (w.alloc (.deferred (some []))).alloc (.loop (rc .ready none)) = W1 := ⟨_, rfl⟩
  have hbk : Book w W1 (rc .ready none) := by
    rw [← hW1]
    have e1 := alloc_block (w.alloc (.deferred (some []))) (.loop (rc .ready none))
    rw [World.size_alloc] at e1
    exact ⟨e1, alloc_old (alloc_block w _) _⟩
  have hI1 : I [] W1 := by rw [← hW1]; exact hI.alloc _ (hI.alloc _ h0)
  have hB1 : Below w0.heap.size w0 W1 := by rw [← hW1]; exact hb0.trans ((((Below.refl _ w).alloc (Nat.le_refl _) _).alloc (by simp) _).mono hb0.size)
  have hsz : w.heap.size + 2 ≤ W1.heap.size := by rw [← hW1]; simp
  have turn : ∀ {β : Type} {T : β → World → Prop} {s : β} {W : World} {r : Loop} (r' : Loop), OwnFrom w.heap.size T → T s W → Book w W r → T s (W.putObj (w.heap.size + 1) (.loop r')) := fun r' hT hs hb => hT.putObj _ hs (by omega) hb.book rfl
  refine ⟨w.heap.size + 1, [{ target := .collected w.heap.size, args := #[] }], W1, { target := .fn (.func gf) lb, args := #[.func (.yield (w.heap.size + 1)) #[] #[]] }, W1, gf, #[.func (.yield (w.heap.size + 1)) #[] #[]] ++ lb, W1, ?_, ?_, ?_, ?_, fun _ => h1, ?_⟩
  · rw [← hW1]
    exact run_enterLoop_outer _ _ _ _ _
  · simp only [resolve, hg]
    simp [go_sem]
  · intro f' hf'
    simp [Target.leads] at hf'
    subst hf'
    exact hFg
  · simp [invoke, go_sem, eg]
  refine (hseq (w.heap.size + 1) (fun pre W => I pre W ∧ Book w W (rc .ready none)) (fun pre W => ∃ c, Ix c pre W ∧ Book w W (rc .done (some c))) W1 hB1 ?_ ?_ ?_ ⟨hI1, hbk⟩).mono ?_
  · rintro s A B row ⟨hs, hb⟩ hgr hr
    exact ⟨hI s A B row hs hgr (fun r e => ⟨by have := (hr r e).1; omega, (hr r e).2⟩), Book.own hsz () A B row hb hgr hr⟩
  · rintro s A B row ⟨c, hs, hb⟩ hgr hr
    exact ⟨c, hIx c s A B row hs hgr (fun r e => ⟨by have := (hr r e).1; omega, (hr r e).2⟩), Book.own hsz () A B row hb hgr hr⟩
  · rintro pre x W ⟨hi, hb⟩ hlen
    refine ⟨fn, _, assign, body, run_yield (P := P) (args := encs x) hb.book (hps x), roundIn_of_wpIn hfn (hassign _ x W _ ⟨_, run_beginRound hb.book rfl, ?_⟩)⟩
    have hb2 := hb.put (rc .busy none)
    have hk0 : Kp W (W.putObj (w.heap.size + 1) (.loop (rc .busy none))) := hKl W _ _ hb.book
    refine wpIn_mono (hbody (w.heap.size + 1) pre x _ (turn _ hI hi hb) hlen) ?_
    have leave : ∀ (c : Code) (W3 : World), KeepsFrom w.heap.size (W.putObj (w.heap.size + 1) (.loop (rc .busy none))) W3 → Ix c (pre ++ [x]) W3 →
        ∃ v W4, (Instr.endRound (w.heap.size + 1) (some c)).run P W3 = .ok v W4 ∧ ((v = .bool true ∧ False) ∨ (v = .bool false ∧ (∃ c, Ix c (pre ++ [x]) W4 ∧ Book w W4 (rc .done (some c))) ∧ HeldOn W1.heap.size W W4)) := fun c W3 hk hx => by
      have hb3 := hb2.keeps hk
      refine ⟨_, _, run_endRound (some c) hb3.book, .inr ⟨rfl, ⟨c, turn _ (hIx c) hx hb3, hb3.put _⟩, fun k y hB hy => ?_⟩⟩
      exact (World.putObj_heap_other (by omega)).trans (hk.same k _ (by omega) ((World.putObj_heap_other (by omega)).trans hy) rfl)
    rintro e a3 W3 hp
    cases e with
    | normal =>
      obtain ⟨hk3, hkp, hi3⟩ := hp
      have hb3 := hb2.keeps hk3
      exact ⟨_, _, run_endRound none hb3.book, .inl ⟨rfl, ⟨turn _ hI hi3 hb3, hb3.put _⟩, hKt (hKt hk0 hkp) (hKl _ _ _ hb3.book)⟩⟩
    | ret =>
      obtain ⟨v, W4, e1, h | ⟨rfl, h⟩⟩ := leave .ret W3 hp.1 hp.2
      · exact h.2.elim
      · exact ⟨_, W4, e1, .inr ⟨rfl, h⟩⟩
    | exit id =>
      obtain ⟨v, W4, e1, h | ⟨rfl, h⟩⟩ := leave (.exit id) W3 hp.1 hp.2
      · exact h.2.elim
      · exact ⟨_, W4, e1, .inr ⟨rfl, h⟩⟩
    | goto t =>
      obtain ⟨v, W4, e1, h | ⟨rfl, h⟩⟩ := leave (.goto t) W3 hp.1 hp.2
      · exact h.2.elim
      · exact ⟨_, W4, e1, .inr ⟨rfl, h⟩⟩
    | panic ch => exact hp.elim
    | outgrown => exact hp.elim
  · rintro e W2 ⟨⟨v, rfl⟩, ⟨xs, hS, hi, hb⟩ | ⟨pre, hSp, c, hx, hb⟩⟩
    · exact ⟨none, _, run_endLoop hb.book (by simp [rc]), hdone xs _ hS (turn _ hI hi hb) (hb.put _).held⟩
    · exact ⟨some c, _, run_endLoop hb.book (by simp [rc]), hstop c pre _ hSp (turn _ (hIx c) hx hb) (hb.put _).held⟩
end
end Go.Proofs.YtppejcfghlpbjaaGreatDoor


/-
  A loop over a function, where the body may count on what comes next. No statement of the seat is proved here.
-/
namespace Go.Proofs.YtppejcfghlpbjaaGreatDoor
open Go.RowKit Go.Shelf

section
variable {F : Fence} {n : Nat} {P : Program} {α : Type}

/-- What a function that is ranged over does, asked of the body only where x comes next behind pre, for whatever the caller holds that no turn of a block of the function's own can break. -/
def SeqNext (F : Fence) (n : Nat) (P : Program) (g : Nat) (lb : Array Value) (encs : α → Array Value) (Kp : World → World → Prop) (S Sp : List α → Prop) (N : Nat) (Nx : List α → α → Prop) (w : World) : Prop :=
  ∀ (l : Nat) (J Jx : List α → World → Prop) (W : World), Below w.heap.size w W → OwnFrom W.heap.size J → OwnFrom W.heap.size Jx →
    (∀ pre x W1, J pre W1 → pre.length < N → Nx pre x → YieldAt F (n - 1) P l (encs x) W1 fun e W' => (e = .returned (.bool true) ∧ J (pre ++ [x]) W' ∧ Kp W1 W') ∨ (e = .returned (.bool false) ∧ Jx (pre ++ [x]) W' ∧ HeldOn W.heap.size W1 W')) →
    J [] W → CallsIn F n P g (#[.func (.yield l) #[] #[]] ++ lb) W fun e W' => (∃ v, e = .returned v) ∧ ((∃ xs, S xs ∧ J xs W') ∨ (∃ pre, Sp pre ∧ Jx pre W'))

/-- The loop, where Kp need abide nothing but a turn of the loop's own record. -/
theorem range_next {g : Operand} {ps : Array Tmp} {assign body : Code} {Q : Exit → Act → World → Prop} {a : Act} {w : World} (hro : F.round = none) (h1 : 1 ≤ n) {gf : Nat} {lb : Array Value} (hg : a.eval g = .func (.func gf) #[] lb) (hFg : F.fn gf)
    (eg : ∀ args w, (callFunc gf args).run P w = .ok (.enter gf args) w) {encs : α → Array Value} {Kp : World → World → Prop} {S Sp : List α → Prop} {N : Nat} {Nx : List α → α → Prop} {w0 : World} (hseq : SeqNext F (n - 1) P gf lb encs Kp S Sp N Nx w0) (hb0 : Below w0.heap.size w0 w)
    (hKt : ∀ {A B C : World}, Kp A B → Kp B C → Kp A C) (hKl : ∀ (W : World) (r r' : Loop), W.heap[w.heap.size + 1]? = some (.loop r) → Kp W (W.putObj (w.heap.size + 1) (.loop r'))) (hps : ∀ x, (encs x).size = ps.size)
    (I : List α → World → Prop) (Ix : Code → List α → World → Prop) (hI : OwnFrom w.heap.size I) (hIx : ∀ c, OwnFrom w.heap.size (Ix c)) (h0 : I [] w) (a₁ : α → Act)
    (hassign : ∀ (l : Nat) (x : α) (W : World) (K : Act → World → Prop), K (a₁ x) W →
      assign.wpIn (F.inRound l) (n - 1 - 1) P (Exit.then K (fun _ _ _ => False)) { tmps := (ps.zip (encs x)).foldl (fun t (p, v) => t.setIfInBounds p v) a.tmps, defers := [] } W)
    (hbody : ∀ (l : Nat) (pre : List α) (x : α) (W : World), I pre W → pre.length < N → Nx pre x → body.wpIn (F.inRound l) (n - 1 - 1) P (ownPostG w.heap.size Kp I Ix (pre ++ [x]) W) (a₁ x) W)
    (hdone : ∀ (xs : List α) (W : World), S xs → I xs W → W.heap[w.heap.size]? = some (.deferred (some [])) → Q .normal { a with defers := { target := .collected w.heap.size, args := #[] } :: a.defers } W)
    (hstop : ∀ (c : Code) (pre : List α) (W : World), Sp pre → Ix c pre W → W.heap[w.heap.size]? = some (.deferred (some [])) → c.wpIn F n P Q { a with defers := { target := .collected w.heap.size, args := #[] } :: a.defers } W) :
    (Code.rangeFunc g ps assign body).wpIn F n P Q a w := by
  refine wpIn_rangeFunc fun fn hfn => ?_
  rw [hro]
  let rc : LoopState → Option Code → Loop := fun st pe => { state := st, pending := pe, fn, tmps := a.tmps, params := ps, assign, body, defers := w.heap.size }
  obtain ⟨W1, hW1⟩ : ∃ W1, (w.alloc (.deferred (some []))).alloc (.loop (rc .ready none)) = W1 := ⟨_, rfl⟩
  have hbk : Book w W1 (rc .ready none) := by
    rw [← hW1]
    have e1 := alloc_block (w.alloc (.deferred (some []))) (.loop (rc .ready none))
    rw [World.size_alloc] at e1
    exact ⟨e1, alloc_old (alloc_block w _) _⟩
  have hI1 : I [] W1 := by rw [← hW1]; exact hI.alloc _ (hI.alloc _ h0)
  have hB1 : Below w0.heap.size w0 W1 := by rw [← hW1]; exact hb0.trans ((((Below.refl _ w).alloc (Nat.le_refl _) _).alloc (by simp) _).mono hb0.size)
  have hsz : w.heap.size + 2 ≤ W1.heap.size := by rw [← hW1]; simp
  have turn : ∀ {β : Type} {T : β → World → Prop} {s : β} {W : World} {r : Loop} (r' : Loop), OwnFrom w.heap.size T → T s W → Book w W r → T s (W.putObj (w.heap.size + 1) (.loop r')) := fun r' hT hs hb => hT.putObj _ hs (by omega) hb.book rfl
  refine ⟨w.heap.size + 1, [{ target := .collected w.heap.size, args := #[] }], W1, { target := .fn (.func gf) lb, args := #[.func (.yield (w.heap.size + 1)) #[] #[]] }, W1, gf, #[.func (.yield (w.heap.size + 1)) #[] #[]] ++ lb, W1, ?_, ?_, ?_, ?_, fun _ => h1, ?_⟩
  · rw [← hW1]
    exact run_enterLoop_outer _ _ _ _ _
  · simp only [resolve, hg]
    simp [go_sem]
  · intro f' hf'
    simp [Target.leads] at hf'
    subst hf'
    exact hFg
  · simp [invoke, go_sem, eg]
  refine (hseq (w.heap.size + 1) (fun pre W => I pre W ∧ Book w W (rc .ready none)) (fun pre W => ∃ c, Ix c pre W ∧ Book w W (rc .done (some c))) W1 hB1 ?_ ?_ ?_ ⟨hI1, hbk⟩).mono ?_
  · rintro s A B row ⟨hs, hb⟩ hgr hr
    exact ⟨hI s A B row hs hgr (fun r e => ⟨by have := (hr r e).1; omega, (hr r e).2⟩), Book.own hsz () A B row hb hgr hr⟩
  · rintro s A B row ⟨c, hs, hb⟩ hgr hr
    exact ⟨c, hIx c s A B row hs hgr (fun r e => ⟨by have := (hr r e).1; omega, (hr r e).2⟩), Book.own hsz () A B row hb hgr hr⟩
  · rintro pre x W ⟨hi, hb⟩ hlen hnx
    refine ⟨fn, _, assign, body, run_yield (P := P) (args := encs x) hb.book (hps x), roundIn_of_wpIn hfn (hassign _ x W _ ⟨_, run_beginRound hb.book rfl, ?_⟩)⟩
    have hb2 := hb.put (rc .busy none)
    have hk0 : Kp W (W.putObj (w.heap.size + 1) (.loop (rc .busy none))) := hKl W _ _ hb.book
    refine wpIn_mono (hbody (w.heap.size + 1) pre x _ (turn _ hI hi hb) hlen hnx) ?_
    have leave : ∀ (c : Code) (W3 : World), KeepsFrom w.heap.size (W.putObj (w.heap.size + 1) (.loop (rc .busy none))) W3 → Ix c (pre ++ [x]) W3 →
        ∃ v W4, (Instr.endRound (w.heap.size + 1) (some c)).run P W3 = .ok v W4 ∧ ((v = .bool true ∧ False) ∨ (v = .bool false ∧ (∃ c, Ix c (pre ++ [x]) W4 ∧ Book w W4 (rc .done (some c))) ∧ HeldOn W1.heap.size W W4)) := fun c W3 hk hx => by
      have hb3 := hb2.keeps hk
      refine ⟨_, _, run_endRound (some c) hb3.book, .inr ⟨rfl, ⟨c, turn _ (hIx c) hx hb3, hb3.put _⟩, fun k y hB hy => ?_⟩⟩
      exact (World.putObj_heap_other (by omega)).trans (hk.same k _ (by omega) ((World.putObj_heap_other (by omega)).trans hy) rfl)
    rintro e a3 W3 hp
    cases e with
    | normal =>
      obtain ⟨hk3, hkp, hi3⟩ := hp
      have hb3 := hb2.keeps hk3
      exact ⟨_, _, run_endRound none hb3.book, .inl ⟨rfl, ⟨turn _ hI hi3 hb3, hb3.put _⟩, hKt (hKt hk0 hkp) (hKl _ _ _ hb3.book)⟩⟩
    | ret =>
      obtain ⟨v, W4, e1, h | ⟨rfl, h⟩⟩ := leave .ret W3 hp.1 hp.2
      · exact h.2.elim
      · exact ⟨_, W4, e1, .inr ⟨rfl, h⟩⟩
    | exit id =>
      obtain ⟨v, W4, e1, h | ⟨rfl, h⟩⟩ := leave (.exit id) W3 hp.1 hp.2
      · exact h.2.elim
      · exact ⟨_, W4, e1, .inr ⟨rfl, h⟩⟩
    | goto t =>
      obtain ⟨v, W4, e1, h | ⟨rfl, h⟩⟩ := leave (.goto t) W3 hp.1 hp.2
      · exact h.2.elim
      · exact ⟨_, W4, e1, .inr ⟨rfl, h⟩⟩
    | panic ch => exact hp.elim
    | outgrown => exact hp.elim
  · rintro e W2 ⟨⟨v, rfl⟩, ⟨xs, hS, hi, hb⟩ | ⟨pre, hSp, c, hx, hb⟩⟩
    · exact ⟨none, _, run_endLoop hb.book (by simp [rc]), hdone xs _ hS (turn _ hI hi hb) (hb.put _).held⟩
    · exact ⟨some c, _, run_endLoop hb.book (by simp [rc]), hstop c pre _ hSp (turn _ (hIx c) hx hb) (hb.put _).held⟩
end
end Go.Proofs.YtppejcfghlpbjaaGreatDoor


/- Walks of lines and read (package asm). No statement of the seat is proved here. -/
namespace Go.Proofs.YtppejcfghlpbjaaGreatDoor
open Go.RowKit Go.Shelf
attribute [local go_sem] Oper.semAt_some

set_option maxRecDepth 100000 in
set_option maxHeartbeats 2000000 in
theorem lines1_in (n : Nat) (hn : 1 ≤ n) (l bx : Nat) (s : List UInt8) (hs : s.length ≤ 1073741824) (J Jx : List (List UInt8) → World → Prop) (W : World)
    (hY : ∀ pre x W1, J pre W1 → pre.length < (linesL s).length → (linesL s)[pre.length]? = some x → YieldAt Fence.wide (n - 1) Tryz.prog l #[.string ⟨x.toArray⟩] W1 fun e W' => (e = .returned (.bool true) ∧ J (pre ++ [x]) W') ∨ (e = .returned (.bool false) ∧ Jx (pre ++ [x]) W'))
    (hbx : W.heap[bx]? = some (.cells #[.string ⟨s.toArray⟩] 9 (0, 0))) (h0 : J [] W) :
    CallsIn Fence.wide n Tryz.prog 41 #[.func (.yield l) #[] #[], .pointer (some ⟨bx, 0, none⟩)] W fun e W' => (∃ v, e = .returned v) ∧ ((∃ xs, xs = linesL s ∧ J xs W') ∨ (∃ pre, True ∧ Jx pre W')) := by
  have b0 : W.cell? ⟨bx, 0, none⟩ = some (.string ⟨s.toArray⟩) := cell_of_block hbx 0
  refine callsIn_of_wp Tryz.func41 rfl trivial ?_ rfl
  simp only [Tryz.ntmps41, List.size_toArray, List.length_cons, List.length_nil, Nat.reduceAdd, Nat.reduceSub, Array.replicate_succ, Array.replicate_zero, List.push_toArray, List.append_toArray, List.nil_append, List.cons_append]
  gi_wp2_with fail
  clear hbx b0
  gi_loopw [3] (fun v wr => ∃ (m : List UInt8) (pre : List (List UInt8)), v = .string ⟨m.toArray⟩ ∧ J pre wr ∧ Hid (linesL s = pre ++ linesL m) ∧ m.length ≤ s.length) (fun v _ => lenOf v)
  case atStart => exact ⟨s, [], rfl, h0, by exact rfl, Nat.le_refl _⟩
  case round =>
    obtain ⟨m, pre, rfl, hJp, hlin, hml⟩ := hrel
    clear h0
    by_cases hm : m = []
    · subst hm
      have hfin : pre = linesL s := by have := hlin.out; simpa [linesL] using this.symm
      clear hlin hY
      gi_wp2
      go_end0
      exact ⟨⟨_, rfl⟩, .inl ⟨pre, hfin, hJp⟩⟩
    · have hemp : (ByteArray.toList ⟨m.toArray⟩ != []) = true := by simpa using hm
      have hemp2 : m.isEmpty = false := by cases m; exact absurd rfl hm; rfl
      have hpos := List.length_pos_iff.2 hm
      have hsz := size_of m
      have IB := ibyte_any m 10 wr
      rw [show ((10 : Int).toNat.toUInt8) = (10 : UInt8) from rfl] at IB
      have hge := Lib.indexByte_ge m 10
      rcases (by omega : Lib.indexByte m 10 = -1 ∨ 0 ≤ Lib.indexByte m 10) with hi | hi
      · obtain ⟨k, hk⟩ : ∃ k, k = m.length := ⟨_, rfl⟩
        have hcut : linesL m = m.take k :: linesL (m.drop k) := by
          subst hk
          rw [List.take_length, List.drop_length, linesL_one m hm (fun c hc e => ?_)]
          · rfl
          · subst e
            obtain ⟨j, hj, he⟩ := List.getElem_of_mem hc
            exact Lib.indexByte_none hi j (by rw [List.getElem?_eq_getElem hj, he])
        have e1 := extract_take m k
        have e2 := extract_drop m k
        rw [hi] at IB
        have hk1 : 1 ≤ k := by omega
        have hk2 : k ≤ m.length := by omega
        have hki : (k : Int) ≤ m.length := by omega
        have hki0 : (0 : Int) ≤ k := by omega
        have hlt : pre.length < (linesL s).length := by rw [hlin.out, hcut]; simp
        have hnx : (linesL s)[pre.length]? = some (m.take k) := by rw [hlin.out, hcut]; simp
        have hlin2 : Hid (linesL s = (pre ++ [m.take k]) ++ linesL (m.drop k)) := by
          have := hlin.out
          rw [hcut] at this
          rw [this]
          unfold Hid
          simp
        clear hcut
        have hkl : (k : Int) = m.length := by omega
        have hkm : (m.length : Int) = k := by omega
        have hkm2 : m.length = k := by omega
        rw [hkm2] at hsz e2
        clear hi hge hlin hml hkl hk hm
        gi_wp2_with fail
        refine ⟨trivial, (callsIn_wide.2 IB).mono ?_⟩
        rintro e wr' ⟨rfl, hwr⟩
        replace hwr := hwr.symm
        subst hwr
        obtain ⟨fn, tmps, assign, body, hy, hRR⟩ := hY pre (m.take k) wr hJp hlt hnx
        clear hY
        gi_wp2
        refine hRR.mono ?_
        rintro e W3 (⟨rfl, hJ3⟩ | ⟨rfl, hJx3⟩)
        · clear hy hRR
          gi_wp2
          go_roundw
          case rel => exact ⟨m.drop k, pre ++ [m.take k], by first | rfl | (rw [List.drop_eq_nil_of_le (by omega)]; rfl), hJ3, hlin2, by rw [List.length_drop]; omega⟩
          case measure => simp [lenOf, ByteArray.size]; omega
        · gi_wp2
          refine bodyPost_ret (results_none rfl _ _ _) rfl ?_
          exact ⟨⟨_, rfl⟩, .inr ⟨_, trivial, hJx3⟩⟩
      · obtain ⟨i, hii⟩ : ∃ i : Nat, Lib.indexByte m 10 = i := ⟨(Lib.indexByte m 10).toNat, by omega⟩
        obtain ⟨hat, hbef⟩ := Lib.indexByte_some hii
        have hil : i < m.length := (List.getElem?_eq_some_iff.1 hat).1
        obtain ⟨k, hk⟩ : ∃ k, k = i + 1 := ⟨_, rfl⟩
        have hcut : linesL m = m.take k :: linesL (m.drop k) := by
          subst hk
          refine linesL_cut m i hil (fun j hj e => ?_) ?_
          · exact hbef j hj (by rw [List.getElem?_eq_getElem (by omega), e])
          · rw [List.getElem?_eq_getElem hil] at hat; exact Option.some.inj hat
        have e1 := extract_take m k
        have e2 := extract_drop m k
        rw [hii] at IB
        have hk1 : 1 ≤ k := by omega
        have hk2 : k ≤ m.length := by omega
        have hki : (k : Int) ≤ m.length := by omega
        have hki0 : (0 : Int) ≤ k := by omega
        have hlt : pre.length < (linesL s).length := by rw [hlin.out, hcut]; simp
        have hnx : (linesL s)[pre.length]? = some (m.take k) := by rw [hlin.out, hcut]; simp
        have hlin2 : Hid (linesL s = (pre ++ [m.take k]) ++ linesL (m.drop k)) := by
          have := hlin.out
          rw [hcut] at this
          rw [this]
          unfold Hid
          simp
        clear hcut
        have hik : (i : Int) = (k : Int) - 1 := by omega
        rw [hik] at IB
        have hkz : ((k : Int) == 0) = false := by rw [beq_eq_false_iff_ne]; omega
        clear hi hii hge hlin hat hbef hil hik hk
        gi_wp2_with fail
        refine ⟨trivial, (callsIn_wide.2 IB).mono ?_⟩
        rintro e wr' ⟨rfl, hwr⟩
        replace hwr := hwr.symm
        subst hwr
        obtain ⟨fn, tmps, assign, body, hy, hRR⟩ := hY pre (m.take k) wr hJp hlt hnx
        clear hY
        gi_wp2
        refine hRR.mono ?_
        rintro e W3 (⟨rfl, hJ3⟩ | ⟨rfl, hJx3⟩)
        · clear hy hRR
          gi_wp2
          go_roundw
          case rel => exact ⟨m.drop k, pre ++ [m.take k], by first | rfl | (rw [List.drop_eq_nil_of_le (by omega)]; rfl), hJ3, hlin2, by rw [List.length_drop]; omega⟩
          case measure => simp [lenOf, ByteArray.size]; omega
        · gi_wp2
          refine bodyPost_ret (results_none rfl _ _ _) rfl ?_
          exact ⟨⟨_, rfl⟩, .inr ⟨_, trivial, hJx3⟩⟩

theorem lines_seq (n : Nat) (hn : 1 ≤ n) (bx : Nat) (s : List UInt8) (hs : s.length ≤ 1073741824) (w : World) (hbx : w.heap[bx]? = some (.cells #[.string ⟨s.toArray⟩] 9 (0, 0))) :
    SeqNext Fence.wide n Tryz.prog 41 #[.pointer (some ⟨bx, 0, none⟩)] (fun x : List UInt8 => #[.string ⟨x.toArray⟩]) (fun _ _ => True) (fun xs => xs = linesL s) (fun _ => True) (linesL s).length (fun pre x => (linesL s)[pre.length]? = some x) w :=
  fun l J Jx W hW _ _ hY h0 => lines1_in n hn l bx s hs J Jx W (fun pre x W1 h1 h2 h3 => by
    obtain ⟨fn, tmps, assign, body, hy, hRR⟩ := hY pre x W1 h1 h2 h3
    exact ⟨fn, tmps, assign, body, hy, hRR.mono (fun e W' h => h.imp (fun ⟨q1, q2, _⟩ => ⟨q1, q2⟩) (fun ⟨q1, q2, _⟩ => ⟨q1, q2⟩))⟩) ((hW.block _ (lt_of_block hbx)).trans hbx) h0

theorem lines_any (s : List UInt8) (w : World) : Calls Tryz.prog 26 #[.string ⟨s.toArray⟩] w fun e w' => e = .returned (.func (.func 41) #[] #[.pointer (some ⟨w.heap.size, 0, none⟩)]) ∧ w' = w.alloc (.cells #[.string ⟨s.toArray⟩] 9) := by
  go_enter Tryz.func26, Tryz.ntmps26
  go_wp2_with fail
  go_ret
  exact ⟨rfl, rfl⟩
end Go.Proofs.YtppejcfghlpbjaaGreatDoor
