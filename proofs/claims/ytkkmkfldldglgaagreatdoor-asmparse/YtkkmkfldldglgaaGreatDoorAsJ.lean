
/- Walk of instruction (package asm). No statement of the seat is proved here. -/
import Derived.Test.YtkkmkfldldglgaaGreatDoorAsI
namespace Go.Proofs.YtkkmkfldldglgaaGreatDoor
open Go.RowKit Go.Shelf

theorem bx156 : Builder.Extra Tryz.prog lays156_ren where
  sizeBuilder := by kernel_rfl
  liesBuilder := by kernel_rfl
  t5 := Tryz.underlying5
  a5 := Tryz.isAgg5
  z5 := Tryz.sizeOf5
  v5 := Tryz.zeroValue5
  infoByte := by kernel_rfl
  cellsByte := by kernel_rfl
  sizeByte := by kernel_rfl
  neB5 := by decide

theorem join_eq : ∀ ws : List (List UInt8), Lib.join ws [32] = joinB ws
  | [] => rfl
  | [x] => by rw [Lib.join_one]; simp [joinB]
  | x :: y :: t => by
    have ih := join_eq (y :: t)
    rw [Lib.join_cons] at ih ⊢
    simp only [joinB, Lib.joinTail, List.map_cons, List.flatten_cons, List.flatMap_cons] at ih ⊢
    rw [show (t.map (([32] : List UInt8) ++ ·)).flatten = t.flatMap (fun x => 32 :: x) by simp [List.flatMap]]
    simp
/-- Words of the call's own. -/
def Wds (w : World) (base : Nat) (v : Value) (ws : List (List UInt8)) : Prop := w.ownsRow base 9 1 v ws.length (ws.map keyV)
theorem Wds.cells {w : World} {base : Nat} {v : Value} {ws : List (List UInt8)} (h : Wds w base v ws) (hne : ws ≠ []) : ∃ g cap cur, v = .slice (some ⟨g, 0, none⟩) ws.length cap ∧ ws.length ≤ cap ∧ base ≤ g ∧ w.heap[g]? = some (.cells cur 9 (0, 0)) ∧ cur.size = cap ∧ (∀ j x, ws[j]? = some x → w.cell? ⟨g, j, none⟩ = some (.string ⟨x.toArray⟩)) := by
  rcases h.2 with ⟨_, h2⟩ | ⟨g, cap, cur, rfl, h1, h2, h3, h4, h5, h6⟩
  · exact absurd (List.length_eq_zero_iff.1 h2) hne
  · refine ⟨g, cap, cur, rfl, h3, h1, h2, by simpa using h5, fun j x hj => ?_⟩
    have hlt := (List.getElem?_eq_some_iff.1 hj).1
    rw [cell_of_block h2]
    have : (cur.toList.take (ws.length * 1))[j]? = some (keyV x) := by rw [h6]; simp [hj]
    rw [List.getElem?_take_of_lt (by omega)] at this
    simpa [keyV] using this
theorem join_any (ws : List (List UInt8)) (w : World) (g cap : Nat) (hg : g < w.heap.size) (hc : ∀ j x, ws[j]? = some x → w.cell? ⟨g, j, none⟩ = some (.string ⟨x.toArray⟩)) (hcap : ws.length ≤ cap) (hb : ws.length ≤ 140737488355328) (hl : (joinB ws).length < 4294967281) :
    Calls Tryz.prog 103 #[.slice (some ⟨g, 0, none⟩) ws.length cap, .string ⟨#[32]⟩] w fun e w' => e = .returned (.string ⟨(joinB ws).toArray⟩) ∧ Keeps (fun _ => False) w w' := by
  have e1 : ((ws.map fun x => (⟨x.toArray⟩ : ByteArray)).map (·.data.toList)) = ws := by simp [Function.comp_def]
  have h := Any.strings_Join lays156 bx156 g 0 cap (ws.map fun x => (⟨x.toArray⟩ : ByteArray)) ⟨#[32]⟩ w (fun j x hj => by
    rw [List.getElem?_map, Option.map_eq_some_iff] at hj
    obtain ⟨y, hy, rfl⟩ := hj
    rw [Nat.zero_add]; exact hc j y hy) hg (by simpa using hb) (by simpa using hcap) (by rw [e1]; show (Lib.join ws [32]).length ≤ _; rw [join_eq]; omega)
  rw [e1] at h
  simp only [List.length_map] at h
  refine h.mono fun e w' ⟨h1, h2⟩ => ⟨?_, keeps_below h2⟩
  rw [h1]
  show Ending.returned (.string ⟨(Lib.join ws [32]).toArray⟩) = _
  rw [join_eq]

theorem Keeps.transB {S T : Nat → Prop} {a b c : World} (h : Keeps S a b) (k : Keeps T b c) (hT : ∀ q, q < a.heap.size → T q → S q) : Keeps S a c :=
  ⟨k.os.trans h.os, k.tape.trans h.tape, k.output.trans h.output, Nat.le_trans h.size k.size, fun i hi hs => (k.block i (Nat.lt_of_lt_of_le hi h.size) (fun ht => hs (hT i hi ht))).trans (h.block i hi hs)⟩
/-- What instruction answers. -/
def InPost (r : Rd) (ws : List (List UInt8)) (n : Nat) (S : Nat → Prop) (base p : Nat) (w : World) (e : Ending) (w' : World) : Prop := match insR r ws n with
  | some r' => e = .returned (.bool true) ∧ RdAt w' (fun k => S k ∨ w.heap.size ≤ k) base p r'
  | none => e = .returned (.bool false)
theorem zeroed_noblank {ws : List (List UInt8)} (h : ∀ x ∈ ws, (32 : UInt8) ∉ x) : ∀ x ∈ zeroed ws, (32 : UInt8) ∉ x := by
  unfold zeroed
  split
  · intro x hx
    rcases List.mem_or_eq_of_mem_set hx with hx | rfl
    · exact h x hx
    · decide
  · exact h
theorem zeroed_ne {ws : List (List UInt8)} (h : ws ≠ []) : zeroed ws ≠ [] := by
  unfold zeroed
  split
  · simpa using h
  · exact h
theorem parse_wf {ws : List (List UInt8)} {i : I5} (h : parseW ws = some i) (hb : ∀ x ∈ ws, (32 : UInt8) ∉ x) : i.wf := by
  obtain ⟨h1, _, h3, h4⟩ := parseW_facts h hb
  obtain ⟨⟨a1, a2⟩, _, ⟨b1, b2⟩, ⟨c1, c2⟩, ⟨d1, d2⟩⟩ := formed_facts h1
  exact ⟨⟨by omega, by omega⟩, ⟨by omega, by omega⟩, ⟨by omega, by omega⟩, ⟨by omega, by omega⟩, h3, h4⟩

/-- The end of instruction's answer: the words are joined and read. -/
def TailAt (r : Rd) (ws : List (List UInt8)) (n : Nat) (S : Nat → Prop) (base p : Nat) (w0 : World) (gw : Nat) (w : World) : Prop :=
  RdAt w (fun k => S k ∨ w0.heap.size ≤ k) base p { r with uses := useR r ws n } ∧ Keeps (fun k => S k ∨ k = gw) w0 w
set_option maxRecDepth 100000 in
set_option maxHeartbeats 4000000 in
theorem tail_ins (r : Rd) (ws : List (List UInt8)) (n : Nat) (S : Nat → Prop) (base p : Nat) (w0 : World) (gw : Nat) (i : I5) (w w2 : World) (hT : TailAt r ws n S base p w0 gw w) (k2 : Keeps (fun _ => False) w w2) (hi : i.wf) (hp : parseW (zeroed ws) = some i) (hcb : (r.code.length + 1) * 40 ≤ 140737488355328) :
    ∃ bc cc, w2.cell? ⟨p, 0, none⟩ = some (.slice bc r.code.length cc) ∧ p < w2.heap.size ∧ ∀ w3 b, w3 = (w2.alloc (.cells b 37)) → ∃ v' w4 sb sn sc, v' = .slice sb sn sc ∧ (Builtin.append_ #[23, 23] 23 #[.slice bc r.code.length cc, .slice (some ⟨w3.drew.heap.size, 0, none⟩) 1 1]).run Tryz.prog (w3.drew.alloc (.cells #[.int .i64 i.op, .int .i64 i.a, .int .i64 i.b, .int .i64 i.c, .int .u64 i.n] 37)) = .ok v' w4 ∧
      w4.cell? ⟨p, 0, none⟩ = some (.slice bc r.code.length cc) ∧ w4.frozen? ⟨p, 0, none⟩ = false ∧ (∀ a v, w2.heap.size ≤ a.block → a.block < w3.heap.size → w3.cell? a = some v → w4.cell? a = some v) ∧
      InPost r ws n S base p w0 (.returned (.bool true)) (w4.setCell ⟨p, 0, none⟩ v') ∧ Keeps (fun k => S k ∨ k = gw) w0 (w4.setCell ⟨p, 0, none⟩ v') := by
  obtain ⟨⟨m, vc, vl, vu, tag, hI, hS⟩, hK⟩ := hT
  obtain ⟨bc, cc, rfl⟩ := hI.code.form
  have hI2 := hI.keeps k2 (fun _ _ f => f)
  refine ⟨bc, cc, cell_of_block hI2.box 0, lt_of_block hI2.box, fun w3 b hw3 => ?_⟩
  have k3 : Keeps (fun _ => False) w w3.drew := by rw [hw3]; exact (k2.alloc _).drew
  have hI3 := hI.keeps k3 (fun _ _ f => f)
  obtain ⟨v', w4, r1, r2, r3⟩ := hI3.code.push2 i hi hcb
  obtain ⟨tag', q1, q2, q3⟩ := hI.ins hi k3 r2 r3
  obtain ⟨sb, sn, sc, hform⟩ := own_form r2.own
  have n1 : (Value.slice bc r.code.length cc).ownBlock ≠ some p := fun e => by have := hI.tc p e; rw [hI.tp] at this; cases this
  have hb4 : w4.heap[p]? = some (.cells #[.slice bc r.code.length cc, vl, .map (some m), vu] 73 (0, 0)) := (r3.keeps.block p (lt_of_block hI3.box) n1).trans hI3.box
  refine ⟨v', w4, sb, sn, sc, hform, r1, cell_of_block hb4 0, frozen_of_block hb4 0, fun a v h1 h2 h3 => ?_, ?_, ?_⟩
  · refine r3.keeps.cell (fun e => ?_) h3
    have := ownBlock_lt hI2.code.own e
    omega
  · unfold InPost insR
    rw [hp]
    refine ⟨rfl, m, v', vl, vu, tag', q1, fun k hk => ?_⟩
    rcases q2 k hk with e | e
    · exact hS k e
    · have := hK.size; exact .inr (by omega)
  · refine hK.transB q3 (fun k hk e => ?_)
    rcases hS k e with q | q
    · exact .inl q
    · omega

/-- The use of a label is kept, and 0 laid into its place. -/
theorem use_step (r : Rd) (ws : List (List UInt8)) (n k : Nat) (S : Nat → Prop) (base p g cap : Nat) (cur : Array Value) (w w1 : World) (hw : Gl w) (hbb : 0 < base ∧ lays147_ren.g 1 < base) (hSb : ∀ q, S q → base ≤ q) (h : RdAt w S base p r) (k1 : Keeps (fun _ => False) w w1) (hk : ws.length = k + 1) (hu : usesB ws = true) (hap : ¬ S g) (hgb : base ≤ g)
    (hblk : w.heap[g]? = some (.cells cur 9 (0, 0))) (hcs : cur.size = cap) (hcap : ws.length ≤ cap) (hcell : ∀ j x, ws[j]? = some x → w.cell? ⟨g, j, none⟩ = some (.string ⟨x.toArray⟩)) (hub : (r.uses.length + 1) * 32 ≤ 140737488355328) :
    ∃ bc cc vu, (w1.drew.cell? ⟨p, 0, none⟩ = some (.slice bc r.code.length cc) ∧ w1.drew.cell? ⟨p, 3, none⟩ = some vu) ∧ ∃ v' w4 sb sn sc, v' = .slice sb sn sc ∧ (Builtin.append_ #[71, 71] 71 #[vu, .slice (some ⟨w1.drew.heap.size, 0, none⟩) 1 1]).run Tryz.prog (w1.drew.alloc (.cells #[.string ⟨(lastW ws).toArray⟩, .int .i64 (r.code.length : Int), .int .i64 (n : Int)] 125)) = .ok v' w4 ∧
      (w4.cell? ⟨p, 0, none⟩ = some (.slice bc r.code.length cc) ∧ w4.cell? ⟨p, 3, none⟩ = some vu) ∧ w4.frozen? ⟨p, 3, none⟩ = false ∧
      (w4.setCell ⟨p, 3, none⟩ v').cell? ⟨g, k, none⟩ = some (.string ⟨(lastW ws).toArray⟩) ∧ (w4.setCell ⟨p, 3, none⟩ v').frozen? ⟨g, k, none⟩ = false ∧
      TailAt r ws n S base p w g ((w4.setCell ⟨p, 3, none⟩ v').setCell ⟨g, k, none⟩ (.string ⟨#[48]⟩)) ∧ Gl ((w4.setCell ⟨p, 3, none⟩ v').setCell ⟨g, k, none⟩ (.string ⟨#[48]⟩)) ∧ g < ((w4.setCell ⟨p, 3, none⟩ v').setCell ⟨g, k, none⟩ (.string ⟨#[48]⟩)).heap.size ∧
      ∀ j x, (zeroed ws)[j]? = some x → ((w4.setCell ⟨p, 3, none⟩ v').setCell ⟨g, k, none⟩ (.string ⟨#[48]⟩)).cell? ⟨g, j, none⟩ = some (.string ⟨x.toArray⟩) := by
  obtain ⟨m, vc, vl, vu, tag, hI, hS⟩ := h
  obtain ⟨bc, cc, rfl⟩ := hI.code.form
  have kd : Keeps (fun _ => False) w w1.drew := k1.drew
  have hI1 := hI.keeps kd (fun _ _ f => f)
  have hglt := lt_of_block hblk
  obtain ⟨v', w4, r1, r2, r3⟩ := own_push1 (P := Tryz.prog) w1.drew base 71 71 125 _ 3 32 Tryz.underlying71 info_use rfl (by decide) vu _ _ hI1.uses [.string ⟨(lastW ws).toArray⟩, .int .i64 (r.code.length : Int), .int .i64 (n : Int)] rfl (by simp [Value.oneCell']) hub (by decide) hI1.code.base
  obtain ⟨tag', q1, q2, q3⟩ := hI.use (u := (lastW ws, r.code.length, n)) kd r2 r3
  obtain ⟨sb, sn, sc, hform⟩ := own_form r2
  have n1 : vu.ownBlock ≠ some p := fun e => by have := hI.tu p e; rw [hI.tp] at this; cases this
  have ng : vu.ownBlock ≠ some g := fun e => hap (hS g (.inr (.inr (.inr (.inr e)))))
  have hgp : g ≠ p := fun e => hap (hS g (.inl e))
  have hb4 : w4.heap[p]? = some (.cells #[.slice bc r.code.length cc, vl, .map (some m), vu] 73 (0, 0)) := (r3.keeps.block p (lt_of_block hI1.box) n1).trans hI1.box
  have hg5 : (w4.setCell ⟨p, 3, none⟩ v').heap[g]? = some (.cells cur 9 (0, 0)) := (q3.block g hglt (fun e => hap (hS g e))).trans hblk
  have kS : Keeps S w (w4.setCell ⟨p, 3, none⟩ v') := q3.mono (fun q _ e => hS q e)
  have ks : Keeps (fun q => q = g) (w4.setCell ⟨p, 3, none⟩ v') ((w4.setCell ⟨p, 3, none⟩ v').setCell ⟨g, k, none⟩ (.string ⟨#[48]⟩)) := (Keeps.refl (fun q => q = g) _).setCell (p := ⟨g, k, none⟩) (.inr rfl) _
  have kT : Keeps (fun q => S q ∨ q = g) w ((w4.setCell ⟨p, 3, none⟩ v').setCell ⟨g, k, none⟩ (.string ⟨#[48]⟩)) := (kS.mono (fun _ _ e => .inl e)).trans (ks.mono (fun _ _ e => .inr e))
  have hlastE : ws[k]? = some (lastW ws) := by
    unfold lastW
    rw [List.getLast?_eq_getElem?, hk]
    simp only [Nat.add_sub_cancel]
    rw [List.getElem?_eq_getElem (by omega)]; rfl
  refine ⟨bc, cc, vu, ⟨cell_of_block hI1.box 0, cell_of_block hI1.box 3⟩, v', w4, sb, sn, sc, hform, r1, ⟨cell_of_block hb4 0, cell_of_block hb4 3⟩, frozen_of_block hb4 3, ?_, frozen_of_block hg5 k, ⟨?_, kT⟩, ?_, ?_, ?_⟩
  · exact kS.cell (a := ⟨g, k, none⟩) hap (hcell k _ hlastE)
  · refine RdAt.keeps (S := fun q => S q ∨ w.heap.size ≤ q) (w := w4.setCell ⟨p, 3, none⟩ v') ⟨m, _, vl, v', tag', ?_, fun q hq => (q2 q hq).imp (hS q) id⟩ ks (fun q hq e => by
      subst e
      rcases hq with hq | hq
      · exact hap hq
      · omega)
    unfold useR
    rw [if_pos hu]
    exact q1
  · exact hw.keepsB kT base hbb (fun q hq => by
      rcases hq with hq | hq
      · exact hSb q hq
      · omega)
  · have := kT.size; omega
  · intro j x hj
    unfold zeroed at hj
    rw [if_pos hu, hk] at hj
    simp only [Nat.add_sub_cancel] at hj
    have hb6 := block_set hg5 k (.string ⟨#[48]⟩)
    rw [cell_of_block hb6]
    by_cases hjk : j = k
    · subst hjk
      rw [List.getElem?_set_self (by omega)] at hj
      cases hj
      rw [Array.getElem?_setIfInBounds_self_of_lt (by omega)]
    · rw [List.getElem?_set_ne (Ne.symm hjk)] at hj
      rw [Array.getElem?_setIfInBounds_ne (Ne.symm hjk), ← cell_of_block hblk]
      exact hcell j x hj

set_option maxRecDepth 100000 in
set_option maxHeartbeats 8000000 in
theorem instruction_any (ws : List (List UInt8)) (n : Nat) (w : World) (S : Nat → Prop) (base p : Nat) (r : Rd) (vw : Value) (hw : Gl w) (hbb : 0 < base ∧ lays147_ren.g 1 < base) (hSb : ∀ q, S q → base ≤ q) (h : RdAt w S base p r) (hws : Wds w base vw ws) (hne : ws ≠ []) (gw : Nat) (hgw : vw.ownBlock = some gw) (hap : ¬ S gw) (hnb : ∀ x ∈ ws, (32 : UInt8) ∉ x)
    (hlen : (joinB (zeroed ws)).length < 4294967281) (hub : (r.uses.length + 1) * 32 ≤ 140737488355328) (hcb : (r.code.length + 1) * 40 ≤ 140737488355328) (hwn : ws.length ≤ 4294967296) (hcl : r.code.length ≤ 4294967296) :
    Calls Tryz.prog 87 #[.pointer (some ⟨p, 0, none⟩), vw, .int .i64 n] w fun e w' => InPost r ws n S base p w e w' ∧ Keeps (fun k => S k ∨ k = gw) w w' := by
  have hmx : Tryz.prog.follows .mixedOrders = true := by kernel_rfl
  obtain ⟨g, cap, cur, rfl, hcap, hgb, hblk, hcs, hcell⟩ := hws.cells hne
  have hgg : g = gw := by simpa [Value.ownBlock] using hgw
  subst hgg
  have hglt := lt_of_block hblk
  obtain ⟨hd, hhd⟩ : ∃ hd, ws.head? = some hd := by
    cases ws with
    | nil => exact absurd rfl hne
    | cons a b => exact ⟨a, rfl⟩
  obtain ⟨k, hk⟩ : ∃ k, ws.length = k + 1 := ⟨ws.length - 1, by have := List.length_pos_iff.2 hne; omega⟩
  have hlastE : ws[k]? = some (lastW ws) := by
    unfold lastW
    rw [List.getLast?_eq_getElem?, hk]
    simp only [Nat.add_sub_cancel]
    rw [List.getElem?_eq_getElem (by omega)]; rfl
  have c0 := hcell 0 hd (by rw [← List.head?_eq_getElem?]; exact hhd)
  have ck := hcell k _ hlastE
  have HQ : Hid (parseL (joinB (zeroed ws)) = parseW (zeroed ws)) := parse_joinB (zeroed_ne hne) (zeroed_noblank hnb)
  have hzl : (zeroed ws).length = ws.length := by unfold zeroed; split <;> simp
  have TP := targetPart_any hd w hw.nms
  have IL := isLabel_any (lastW ws)
  have hUS : usesB ws = (decide (tpart hd = some k) && labB (lastW ws)) := by unfold usesB; rw [hhd, hk]; rfl
  have htp : ∀ b, decide (tpart hd = some k) = b → ((k : Int) == tpartI hd) = b := by
    intro b hb
    rw [← hb]
    unfold tpartI
    cases tpart hd with
    | none => simp
    | some q => simp only [Option.some.injEq]; rw [Bool.eq_iff_iff]; simp; omega
  have HH : Hid (RdAt w S base p r ∧ (∀ j x, ws[j]? = some x → w.cell? ⟨g, j, none⟩ = some (.string ⟨x.toArray⟩)) ∧ w.heap[g]? = some (.cells cur 9 (0, 0))) := ⟨h, hcell, hblk⟩
  have hki : (k : Int) ≤ 4294967296 := by omega
  rw [hk] at hcap hwn ⊢
  have hcapi : (k : Int) + 1 ≤ cap := by omega
  generalize hT1 : tpartI hd = tp at *
  clear h hcell hblk hws hlastE
  cases hd1 : decide (tpart hd = some k)
  · have e1 := htp false hd1
    have hus : usesB ws = false := by rw [hUS, hd1]; rfl
    clear htp hUS hd1 IL hT1 hhd
    go_enter Tryz.func87, Tryz.ntmps87
    go_wp2_with fail
    refine TP.mono ?_
    rintro e W ⟨rfl, kW⟩
    have HT : Hid (TailAt r ws n S base p w g W) := ⟨(by
      have := HH.out.1.keeps kW (fun _ _ f => f)
      unfold useR
      rw [if_neg (by simp [hus])]
      exact this.mono (fun q hq => .inl hq)), kW.mono (fun _ _ f => f.elim)⟩
    have hz : zeroed ws = ws := by unfold zeroed; rw [if_neg (by simp [hus])]
    have HJ : Calls Tryz.prog 103 #[.slice (some ⟨g, 0, none⟩) (k + 1) cap, .string ⟨#[32]⟩] W fun e w' => e = .returned (.string ⟨(joinB (zeroed ws)).toArray⟩) ∧ Keeps (fun _ => False) W w' := by
      have := join_any (zeroed ws) W g cap (Nat.lt_of_lt_of_le hglt kW.size) (fun j x hj => kW.cell (fun f => f) (HH.out.2.1 j x (by rw [← hz]; exact hj))) (by rw [hzl, hk]; exact hcap) (by rw [hzl]; omega) hlen
      rw [hzl, hk] at this
      exact this
    have HP : Hid (∀ w1, Keeps (fun _ => False) W w1 → Calls Tryz.prog 96 #[.string ⟨(joinB (zeroed ws)).toArray⟩] w1 fun e w' => PPost (joinB (zeroed ws)) e ∧ Keeps (fun _ => False) w1 w') := fun w1 kk => parse_any _ hlen w1 ((hw.keeps kW).keeps kk)
    clear HH TP c0 ck hz kW
    go_wp2_with fail
    refine HJ.mono ?_
    rintro e w1 ⟨rfl, k1⟩
    go_wp2_with fail
    refine (HP.out w1 k1).mono ?_
    rintro e w2 ⟨hPP, k2⟩
    have k12 := k1.trans k2
    unfold PPost at hPP
    rw [HQ.out] at hPP
    cases hq : parseW (zeroed ws) with
    | none =>
      rw [hq] at hPP
      subst hPP
      have hEnd : InPost r ws n S base p w (.returned (.bool false)) w2 := by
        unfold InPost insR
        rw [hq]
        rfl
      have hKK : Keeps (fun k => S k ∨ k = g) w (w2.alloc (.cells #[.int .i64 0, .int .i64 0, .int .i64 0, .int .i64 0, .int .u64 0] 37)) := (HT.out.2.transB k12 (fun _ _ f => f.elim)).alloc _
      have hEnd2 : InPost r ws n S base p w (.returned (.bool false)) (w2.alloc (.cells #[.int .i64 0, .int .i64 0, .int .i64 0, .int .i64 0, .int .u64 0] 37)) := by
        unfold InPost insR at hEnd ⊢
        rw [hq] at hEnd ⊢
        exact hEnd
      clear HJ HP HT k1 k2 k12 hEnd
      go_wp2_with fail
      go_ret
      exact ⟨hEnd2, hKK⟩
    | some i =>
      rw [hq] at hPP
      subst hPP
      obtain ⟨bc, cc, d0, dlt, dAll⟩ := tail_ins r ws n S base p w g i W w2 HT.out k12 (parse_wf hq (zeroed_noblank hnb)) hq hcb
      obtain ⟨op, ia, ib, ic, iN⟩ := i
      obtain ⟨w3, hw3⟩ : ∃ w3, w3 = w2.alloc (.cells #[.int .i64 op, .int .i64 ia, .int .i64 ib, .int .i64 ic, .int .u64 iN] 37) := ⟨_, rfl⟩
      obtain ⟨v', w4, sb, sn, sc, rfl, r1, r2, r3, r4, r5, r6⟩ := dAll w3 _ hw3
      have HA : Hid (_ = _) := r1
      obtain ⟨bi, hbi⟩ : ∃ bi, bi = w2.heap.size := ⟨_, rfl⟩
      have bb : w3.heap[bi]? = some (.cells #[.int .i64 op, .int .i64 ia, .int .i64 ib, .int .i64 ic, .int .u64 iN] 37 (0, 0)) := by rw [hw3, hbi]; exact alloc_block _ _
      have SW : ∀ X : World, Keeps (fun _ => False) w3 X → (X.cell? ⟨p, 0, none⟩ = some (.slice bc r.code.length cc) ∧ X.cell? ⟨bi, 0, none⟩ = some (.int .i64 op) ∧ X.cell? ⟨bi, 1, none⟩ = some (.int .i64 ia) ∧ X.cell? ⟨bi, 2, none⟩ = some (.int .i64 ib) ∧ X.cell? ⟨bi, 3, none⟩ = some (.int .i64 ic) ∧ X.cell? ⟨bi, 4, none⟩ = some (.int .u64 iN)) := fun X kX => by
        have c0 : w3.cell? ⟨p, 0, none⟩ = some (.slice bc r.code.length cc) := by rw [hw3]; exact ((Keeps.refl (fun _ => False) w2).alloc _).cell (fun f => f) d0
        exact ⟨kX.cell (fun f => f) c0, kX.cell (fun f => f) ((cell_of_block bb 0).trans rfl), kX.cell (fun f => f) ((cell_of_block bb 1).trans rfl), kX.cell (fun f => f) ((cell_of_block bb 2).trans rfl), kX.cell (fun f => f) ((cell_of_block bb 3).trans rfl), kX.cell (fun f => f) ((cell_of_block bb 4).trans rfl)⟩
      have S0 := SW w3.drew ((Keeps.refl _ w3).drew)
      have S1 := SW (w3.drew.alloc (.cells #[.int .i64 op, .int .i64 ia, .int .i64 ib, .int .i64 ic, .int .u64 iN] 37)) (((Keeps.refl _ w3).drew).alloc _)
      have S4 : (w4.cell? ⟨p, 0, none⟩ = some (.slice bc r.code.length cc) ∧ w4.cell? ⟨bi, 0, none⟩ = some (.int .i64 op) ∧ w4.cell? ⟨bi, 1, none⟩ = some (.int .i64 ia) ∧ w4.cell? ⟨bi, 2, none⟩ = some (.int .i64 ib) ∧ w4.cell? ⟨bi, 3, none⟩ = some (.int .i64 ic) ∧ w4.cell? ⟨bi, 4, none⟩ = some (.int .u64 iN)) := by
        have hlt3 : bi < w3.heap.size := lt_of_block bb
        have g := fun (k : Nat) v (hv : w3.cell? ⟨bi, k, none⟩ = some v) => r4 ⟨bi, k, none⟩ v (by show w2.heap.size ≤ bi; omega) hlt3 hv
        obtain ⟨z0, z1, z2, z3, z4, z5⟩ := SW w3 (Keeps.refl _ _)
        exact ⟨r2, g 0 _ z1, g 1 _ z2, g 2 _ z3, g 3 _ z4, g 4 _ z5⟩
      have HEnd : Hid (InPost r ws n S base p w (.returned (.bool true)) (w4.setCell ⟨p, 0, none⟩ (.slice sb sn sc)) ∧ Keeps (fun k => S k ∨ k = g) w (w4.setCell ⟨p, 0, none⟩ (.slice sb sn sc))) := ⟨r5, r6⟩
      have HW3 : Hid (w3 = w2.alloc (.cells #[.int .i64 op, .int .i64 ia, .int .i64 ib, .int .i64 ic, .int .u64 iN] 37)) := hw3
      have HBI : Hid (bi = w2.heap.size) := hbi
      clear dAll r1 r4 r5 r6 HJ HP HT k1 k2 k12 SW hq hw3 hbi bb
      go_wp2_with fail
      rw [← HBI.out, ← HW3.out]
      refine wp_until (S := fun W : World => W.cell? ⟨p, 0, none⟩ = some (.slice bc r.code.length cc) ∧ W.cell? ⟨bi, 0, none⟩ = some (.int .i64 op) ∧ W.cell? ⟨bi, 1, none⟩ = some (.int .i64 ia) ∧ W.cell? ⟨bi, 2, none⟩ = some (.int .i64 ib) ∧ W.cell? ⟨bi, 3, none⟩ = some (.int .i64 ic) ∧ W.cell? ⟨bi, 4, none⟩ = some (.int .u64 iN)) 10 11 rfl hmx ?_
      simp only [Array.replicate_succ, Array.replicate_zero, List.push_toArray, List.nil_append, List.cons_append]
      refine u_take (i := 0) (v := (.pointer (some ⟨p, 0, none⟩))) 56 rfl rfl (by kernel_rfl) (by kernel_rfl) (by kernel_rfl) (by kernel_rfl) rfl (fun w' hw' => by obtain ⟨q0, q1, q2, q3, q4, q5⟩ := hw'; go_simp) S0 ?_
      simp only [Act.put, List.setIfInBounds_toArray, List.set_cons_zero, List.set_cons_succ]
      refine u_take (i := 1) (v := (.pointer (some ⟨p, 0, none⟩))) 57 rfl rfl (by kernel_rfl) (by kernel_rfl) (by kernel_rfl) (by kernel_rfl) rfl (fun w' hw' => by obtain ⟨q0, q1, q2, q3, q4, q5⟩ := hw'; go_simp) S0 ?_
      simp only [Act.put, List.setIfInBounds_toArray, List.set_cons_zero, List.set_cons_succ]
      refine u_take (i := 2) (v := (.pointer (some ⟨p, 0, none⟩))) 58 rfl rfl (by kernel_rfl) (by kernel_rfl) (by kernel_rfl) (by kernel_rfl) rfl (fun w' hw' => by obtain ⟨q0, q1, q2, q3, q4, q5⟩ := hw'; go_simp) S0 ?_
      simp only [Act.put, List.setIfInBounds_toArray, List.set_cons_zero, List.set_cons_succ]
      refine u_take (i := 3) (v := (.pointer (some ⟨p, 0, none⟩))) 59 rfl rfl (by kernel_rfl) (by kernel_rfl) (by kernel_rfl) (by kernel_rfl) rfl (fun w' hw' => by obtain ⟨q0, q1, q2, q3, q4, q5⟩ := hw'; go_simp) S0 ?_
      simp only [Act.put, List.setIfInBounds_toArray, List.set_cons_zero, List.set_cons_succ]
      refine u_take (i := 4) (v := (.slice bc r.code.length cc)) 60 rfl rfl (by kernel_rfl) (by kernel_rfl) (by kernel_rfl) (by kernel_rfl) rfl (fun w' hw' => by obtain ⟨q0, q1, q2, q3, q4, q5⟩ := hw'; go_simp) S0 ?_
      simp only [Act.put, List.setIfInBounds_toArray, List.set_cons_zero, List.set_cons_succ]
      refine u_take (i := 5) (v := (.agg #[.int .i64 op, .int .i64 ia, .int .i64 ib, .int .i64 ic, .int .u64 iN])) 61 rfl rfl (by kernel_rfl) (by kernel_rfl) (by kernel_rfl) (by kernel_rfl) rfl (fun w' hw' => by obtain ⟨q0, q1, q2, q3, q4, q5⟩ := hw'; go_simp) S0 ?_
      simp only [Act.put, List.setIfInBounds_toArray, List.set_cons_zero, List.set_cons_succ]
      refine u_val (i := 6) (v := .slice (some ⟨w3.drew.heap.size, 0, none⟩) 1 1) (w' := w3.drew.alloc (.cells #[.int .i64 op, .int .i64 ia, .int .i64 ib, .int .i64 ic, .int .u64 iN] 37)) (some 62) (by kernel_rfl) rfl rfl rfl (by go_simp) S1 ?_
      simp only [Act.put, List.setIfInBounds_toArray, List.set_cons_zero, List.set_cons_succ]
      refine u_val (i := 7) (v := .slice sb sn sc) (w' := w4) (some 63) (by kernel_rfl) rfl rfl rfl (run_append_op rfl rfl rfl HA.out) S4 ?_
      simp only [Act.put, List.setIfInBounds_toArray, List.set_cons_zero, List.set_cons_succ]
      refine u_val (i := 8) (v := .pointer (some ⟨p, 0, none⟩)) (w' := w4) (some 64) (by kernel_rfl) rfl rfl rfl (by go_simp) S4 ?_
      simp only [Act.put, List.setIfInBounds_toArray, List.set_cons_zero, List.set_cons_succ]
      refine u_val (i := 9) (v := .pointer (some ⟨p, 0, none⟩)) (w' := w4) (some 65) (by kernel_rfl) rfl rfl rfl (by go_simp) S4 ?_
      simp only [Act.put, List.setIfInBounds_toArray, List.set_cons_zero, List.set_cons_succ]
      refine u_last (w' := w4.setCell ⟨p, 0, none⟩ (.slice sb sn sc)) (by kernel_rfl) rfl rfl rfl (by go_simp) (by kernel_rfl) ?_
      clear S0 S1 S4 HA r2 r3
      go_wp2_with fail
      go_ret
      exact ⟨HEnd.out.1, HEnd.out.2⟩
  · have e1 := htp true hd1
    cases hlb : labB (lastW ws)
    · have hus : usesB ws = false := by rw [hUS, hd1, hlb]; rfl
      rw [hlb] at IL
      clear htp hUS hd1 hT1 hhd
      go_enter Tryz.func87, Tryz.ntmps87
      go_wp2_with fail
      refine TP.mono ?_
      rintro e W ⟨rfl, kW⟩
      go_wp2_with fail
      refine (IL _ (hw.keeps kW).nms).mono ?_
      rintro e W' ⟨rfl, hWW⟩
      replace hWW := hWW.symm
      subst hWW
      have HT : Hid (TailAt r ws n S base p w g W) := ⟨(by
        have := HH.out.1.keeps kW (fun _ _ f => f)
        unfold useR
        rw [if_neg (by simp [hus])]
        exact this.mono (fun q hq => .inl hq)), kW.mono (fun _ _ f => f.elim)⟩
      have hz : zeroed ws = ws := by unfold zeroed; rw [if_neg (by simp [hus])]
      have HJ : Calls Tryz.prog 103 #[.slice (some ⟨g, 0, none⟩) (k + 1) cap, .string ⟨#[32]⟩] W fun e w' => e = .returned (.string ⟨(joinB (zeroed ws)).toArray⟩) ∧ Keeps (fun _ => False) W w' := by
        have := join_any (zeroed ws) W g cap (Nat.lt_of_lt_of_le hglt kW.size) (fun j x hj => kW.cell (fun f => f) (HH.out.2.1 j x (by rw [← hz]; exact hj))) (by rw [hzl, hk]; exact hcap) (by rw [hzl]; omega) hlen
        rw [hzl, hk] at this
        exact this
      have HP : Hid (∀ w1, Keeps (fun _ => False) W w1 → Calls Tryz.prog 96 #[.string ⟨(joinB (zeroed ws)).toArray⟩] w1 fun e w' => PPost (joinB (zeroed ws)) e ∧ Keeps (fun _ => False) w1 w') := fun w1 kk => parse_any _ hlen w1 ((hw.keeps kW).keeps kk)
      clear HH TP c0 ck hz kW
      go_wp2_with fail
      refine HJ.mono ?_
      rintro e w1 ⟨rfl, k1⟩
      go_wp2_with fail
      refine (HP.out w1 k1).mono ?_
      rintro e w2 ⟨hPP, k2⟩
      have k12 := k1.trans k2
      unfold PPost at hPP
      rw [HQ.out] at hPP
      cases hq : parseW (zeroed ws) with
      | none =>
        rw [hq] at hPP
        subst hPP
        have hEnd : InPost r ws n S base p w (.returned (.bool false)) w2 := by
          unfold InPost insR
          rw [hq]
          rfl
        have hKK : Keeps (fun k => S k ∨ k = g) w (w2.alloc (.cells #[.int .i64 0, .int .i64 0, .int .i64 0, .int .i64 0, .int .u64 0] 37)) := (HT.out.2.transB k12 (fun _ _ f => f.elim)).alloc _
        have hEnd2 : InPost r ws n S base p w (.returned (.bool false)) (w2.alloc (.cells #[.int .i64 0, .int .i64 0, .int .i64 0, .int .i64 0, .int .u64 0] 37)) := by
          unfold InPost insR at hEnd ⊢
          rw [hq] at hEnd ⊢
          exact hEnd
        clear HJ HP HT k1 k2 k12 hEnd
        go_wp2_with fail
        go_ret
        exact ⟨hEnd2, hKK⟩
      | some i =>
        rw [hq] at hPP
        subst hPP
        obtain ⟨bc, cc, d0, dlt, dAll⟩ := tail_ins r ws n S base p w g i W w2 HT.out k12 (parse_wf hq (zeroed_noblank hnb)) hq hcb
        obtain ⟨op, ia, ib, ic, iN⟩ := i
        obtain ⟨w3, hw3⟩ : ∃ w3, w3 = w2.alloc (.cells #[.int .i64 op, .int .i64 ia, .int .i64 ib, .int .i64 ic, .int .u64 iN] 37) := ⟨_, rfl⟩
        obtain ⟨v', w4, sb, sn, sc, rfl, r1, r2, r3, r4, r5, r6⟩ := dAll w3 _ hw3
        have HA : Hid (_ = _) := r1
        obtain ⟨bi, hbi⟩ : ∃ bi, bi = w2.heap.size := ⟨_, rfl⟩
        have bb : w3.heap[bi]? = some (.cells #[.int .i64 op, .int .i64 ia, .int .i64 ib, .int .i64 ic, .int .u64 iN] 37 (0, 0)) := by rw [hw3, hbi]; exact alloc_block _ _
        have SW : ∀ X : World, Keeps (fun _ => False) w3 X → (X.cell? ⟨p, 0, none⟩ = some (.slice bc r.code.length cc) ∧ X.cell? ⟨bi, 0, none⟩ = some (.int .i64 op) ∧ X.cell? ⟨bi, 1, none⟩ = some (.int .i64 ia) ∧ X.cell? ⟨bi, 2, none⟩ = some (.int .i64 ib) ∧ X.cell? ⟨bi, 3, none⟩ = some (.int .i64 ic) ∧ X.cell? ⟨bi, 4, none⟩ = some (.int .u64 iN)) := fun X kX => by
          have c0 : w3.cell? ⟨p, 0, none⟩ = some (.slice bc r.code.length cc) := by rw [hw3]; exact ((Keeps.refl (fun _ => False) w2).alloc _).cell (fun f => f) d0
          exact ⟨kX.cell (fun f => f) c0, kX.cell (fun f => f) ((cell_of_block bb 0).trans rfl), kX.cell (fun f => f) ((cell_of_block bb 1).trans rfl), kX.cell (fun f => f) ((cell_of_block bb 2).trans rfl), kX.cell (fun f => f) ((cell_of_block bb 3).trans rfl), kX.cell (fun f => f) ((cell_of_block bb 4).trans rfl)⟩
        have S0 := SW w3.drew ((Keeps.refl _ w3).drew)
        have S1 := SW (w3.drew.alloc (.cells #[.int .i64 op, .int .i64 ia, .int .i64 ib, .int .i64 ic, .int .u64 iN] 37)) (((Keeps.refl _ w3).drew).alloc _)
        have S4 : (w4.cell? ⟨p, 0, none⟩ = some (.slice bc r.code.length cc) ∧ w4.cell? ⟨bi, 0, none⟩ = some (.int .i64 op) ∧ w4.cell? ⟨bi, 1, none⟩ = some (.int .i64 ia) ∧ w4.cell? ⟨bi, 2, none⟩ = some (.int .i64 ib) ∧ w4.cell? ⟨bi, 3, none⟩ = some (.int .i64 ic) ∧ w4.cell? ⟨bi, 4, none⟩ = some (.int .u64 iN)) := by
          have hlt3 : bi < w3.heap.size := lt_of_block bb
          have g := fun (k : Nat) v (hv : w3.cell? ⟨bi, k, none⟩ = some v) => r4 ⟨bi, k, none⟩ v (by show w2.heap.size ≤ bi; omega) hlt3 hv
          obtain ⟨z0, z1, z2, z3, z4, z5⟩ := SW w3 (Keeps.refl _ _)
          exact ⟨r2, g 0 _ z1, g 1 _ z2, g 2 _ z3, g 3 _ z4, g 4 _ z5⟩
        have HEnd : Hid (InPost r ws n S base p w (.returned (.bool true)) (w4.setCell ⟨p, 0, none⟩ (.slice sb sn sc)) ∧ Keeps (fun k => S k ∨ k = g) w (w4.setCell ⟨p, 0, none⟩ (.slice sb sn sc))) := ⟨r5, r6⟩
        have HW3 : Hid (w3 = w2.alloc (.cells #[.int .i64 op, .int .i64 ia, .int .i64 ib, .int .i64 ic, .int .u64 iN] 37)) := hw3
        have HBI : Hid (bi = w2.heap.size) := hbi
        clear dAll r1 r4 r5 r6 HJ HP HT k1 k2 k12 SW hq hw3 hbi bb
        go_wp2_with fail
        rw [← HBI.out, ← HW3.out]
        refine wp_until (S := fun W : World => W.cell? ⟨p, 0, none⟩ = some (.slice bc r.code.length cc) ∧ W.cell? ⟨bi, 0, none⟩ = some (.int .i64 op) ∧ W.cell? ⟨bi, 1, none⟩ = some (.int .i64 ia) ∧ W.cell? ⟨bi, 2, none⟩ = some (.int .i64 ib) ∧ W.cell? ⟨bi, 3, none⟩ = some (.int .i64 ic) ∧ W.cell? ⟨bi, 4, none⟩ = some (.int .u64 iN)) 10 11 rfl hmx ?_
        simp only [Array.replicate_succ, Array.replicate_zero, List.push_toArray, List.nil_append, List.cons_append]
        refine u_take (i := 0) (v := (.pointer (some ⟨p, 0, none⟩))) 56 rfl rfl (by kernel_rfl) (by kernel_rfl) (by kernel_rfl) (by kernel_rfl) rfl (fun w' hw' => by obtain ⟨q0, q1, q2, q3, q4, q5⟩ := hw'; go_simp) S0 ?_
        simp only [Act.put, List.setIfInBounds_toArray, List.set_cons_zero, List.set_cons_succ]
        refine u_take (i := 1) (v := (.pointer (some ⟨p, 0, none⟩))) 57 rfl rfl (by kernel_rfl) (by kernel_rfl) (by kernel_rfl) (by kernel_rfl) rfl (fun w' hw' => by obtain ⟨q0, q1, q2, q3, q4, q5⟩ := hw'; go_simp) S0 ?_
        simp only [Act.put, List.setIfInBounds_toArray, List.set_cons_zero, List.set_cons_succ]
        refine u_take (i := 2) (v := (.pointer (some ⟨p, 0, none⟩))) 58 rfl rfl (by kernel_rfl) (by kernel_rfl) (by kernel_rfl) (by kernel_rfl) rfl (fun w' hw' => by obtain ⟨q0, q1, q2, q3, q4, q5⟩ := hw'; go_simp) S0 ?_
        simp only [Act.put, List.setIfInBounds_toArray, List.set_cons_zero, List.set_cons_succ]
        refine u_take (i := 3) (v := (.pointer (some ⟨p, 0, none⟩))) 59 rfl rfl (by kernel_rfl) (by kernel_rfl) (by kernel_rfl) (by kernel_rfl) rfl (fun w' hw' => by obtain ⟨q0, q1, q2, q3, q4, q5⟩ := hw'; go_simp) S0 ?_
        simp only [Act.put, List.setIfInBounds_toArray, List.set_cons_zero, List.set_cons_succ]
        refine u_take (i := 4) (v := (.slice bc r.code.length cc)) 60 rfl rfl (by kernel_rfl) (by kernel_rfl) (by kernel_rfl) (by kernel_rfl) rfl (fun w' hw' => by obtain ⟨q0, q1, q2, q3, q4, q5⟩ := hw'; go_simp) S0 ?_
        simp only [Act.put, List.setIfInBounds_toArray, List.set_cons_zero, List.set_cons_succ]
        refine u_take (i := 5) (v := (.agg #[.int .i64 op, .int .i64 ia, .int .i64 ib, .int .i64 ic, .int .u64 iN])) 61 rfl rfl (by kernel_rfl) (by kernel_rfl) (by kernel_rfl) (by kernel_rfl) rfl (fun w' hw' => by obtain ⟨q0, q1, q2, q3, q4, q5⟩ := hw'; go_simp) S0 ?_
        simp only [Act.put, List.setIfInBounds_toArray, List.set_cons_zero, List.set_cons_succ]
        refine u_val (i := 6) (v := .slice (some ⟨w3.drew.heap.size, 0, none⟩) 1 1) (w' := w3.drew.alloc (.cells #[.int .i64 op, .int .i64 ia, .int .i64 ib, .int .i64 ic, .int .u64 iN] 37)) (some 62) (by kernel_rfl) rfl rfl rfl (by go_simp) S1 ?_
        simp only [Act.put, List.setIfInBounds_toArray, List.set_cons_zero, List.set_cons_succ]
        refine u_val (i := 7) (v := .slice sb sn sc) (w' := w4) (some 63) (by kernel_rfl) rfl rfl rfl (run_append_op rfl rfl rfl HA.out) S4 ?_
        simp only [Act.put, List.setIfInBounds_toArray, List.set_cons_zero, List.set_cons_succ]
        refine u_val (i := 8) (v := .pointer (some ⟨p, 0, none⟩)) (w' := w4) (some 64) (by kernel_rfl) rfl rfl rfl (by go_simp) S4 ?_
        simp only [Act.put, List.setIfInBounds_toArray, List.set_cons_zero, List.set_cons_succ]
        refine u_val (i := 9) (v := .pointer (some ⟨p, 0, none⟩)) (w' := w4) (some 65) (by kernel_rfl) rfl rfl rfl (by go_simp) S4 ?_
        simp only [Act.put, List.setIfInBounds_toArray, List.set_cons_zero, List.set_cons_succ]
        refine u_last (w' := w4.setCell ⟨p, 0, none⟩ (.slice sb sn sc)) (by kernel_rfl) rfl rfl rfl (by go_simp) (by kernel_rfl) ?_
        clear S0 S1 S4 HA r2 r3
        go_wp2_with fail
        go_ret
        exact ⟨HEnd.out.1, HEnd.out.2⟩
    · have hus : usesB ws = true := by rw [hUS, hd1, hlb]; rfl
      rw [hlb] at IL
      clear htp hUS hd1 hT1 hhd
      go_enter Tryz.func87, Tryz.ntmps87
      go_wp2_with fail
      refine TP.mono ?_
      rintro e w1 ⟨rfl, k1⟩
      go_wp2_with fail
      refine (IL _ (hw.keeps k1).nms).mono ?_
      rintro e w1' ⟨rfl, hww⟩
      subst hww
      obtain ⟨bc, cc, vu, S0, v', w4, sb, sn, sc, rfl, r1, S4, r5, r6, r7, r8, r9, r10, r11⟩ := use_step r ws n k S base p g cap cur w w1' hw hbb hSb HH.out.1 k1 hk hus hap hgb HH.out.2.2 hcs (by rw [hk]; exact hcap) HH.out.2.1 hub
      have HA : Hid (_ = _) := r1
      have ka := (Keeps.refl (fun _ => False) w1'.drew).alloc (.cells #[.string ⟨(lastW ws).toArray⟩, .int .i64 (r.code.length : Int), .int .i64 (n : Int)] 125)
      have S1 : ((w1'.drew.alloc (.cells #[.string ⟨(lastW ws).toArray⟩, .int .i64 (r.code.length : Int), .int .i64 (n : Int)] 125)).cell? ⟨p, 0, none⟩ = some (.slice bc r.code.length cc) ∧ (w1'.drew.alloc (.cells #[.string ⟨(lastW ws).toArray⟩, .int .i64 (r.code.length : Int), .int .i64 (n : Int)] 125)).cell? ⟨p, 3, none⟩ = some vu) := ⟨ka.cell (fun f => f) S0.1, ka.cell (fun f => f) S0.2⟩
      obtain ⟨W, hW⟩ : ∃ W, (w4.setCell ⟨p, 3, none⟩ (.slice sb sn sc)).setCell ⟨g, k, none⟩ (.string ⟨#[48]⟩) = W := ⟨_, rfl⟩
      obtain ⟨w5, hw5⟩ : ∃ w5, w4.setCell ⟨p, 3, none⟩ (.slice sb sn sc) = w5 := ⟨_, rfl⟩
      rw [hW] at r8 r9 r10 r11
      rw [hw5] at hW r6 r7
      have HW5 : Hid (w4.setCell ⟨p, 3, none⟩ (.slice sb sn sc) = w5) := hw5
      have HWW : Hid (w5.setCell ⟨g, k, none⟩ (.string ⟨#[48]⟩) = W) := hW
      have hcl3 : (r.code.length : Int) ≤ 4294967296 := by omega
      have HJ := join_any (zeroed ws) W g cap r10 r11 (by rw [hzl, hk]; exact hcap) (by rw [hzl]; omega) hlen
      rw [hzl, hk] at HJ
      have HP : Hid (∀ w1, Keeps (fun _ => False) W w1 → Calls Tryz.prog 96 #[.string ⟨(joinB (zeroed ws)).toArray⟩] w1 fun e w' => PPost (joinB (zeroed ws)) e ∧ Keeps (fun _ => False) w1 w') := fun w1 kk => parse_any _ hlen w1 (r9.keeps kk)
      have HT : Hid (TailAt r ws n S base p w g W) := r8
      clear hw5 hW r1 r8 r9 r10 r11 ka HH IL TP c0 ck k1
      go_wp2_with fail
      refine wp_until (S := fun W : World => W.cell? ⟨p, 0, none⟩ = some (.slice bc r.code.length cc) ∧ W.cell? ⟨p, 3, none⟩ = some vu) 17 18 rfl hmx ?_
      simp only [Array.replicate_succ, Array.replicate_zero, List.push_toArray, List.nil_append, List.cons_append]
      refine u_take (i := 0) (v := (.pointer (some ⟨p, 0, none⟩))) 28 rfl rfl (by kernel_rfl) (by kernel_rfl) (by kernel_rfl) (by kernel_rfl) rfl (fun w' hw' => by obtain ⟨q0, q1⟩ := hw'; go_simp) S0 ?_
      simp only [Act.put, List.setIfInBounds_toArray, List.set_cons_zero, List.set_cons_succ]
      refine u_take (i := 1) (v := (.pointer (some ⟨p, 0, none⟩))) 29 rfl rfl (by kernel_rfl) (by kernel_rfl) (by kernel_rfl) (by kernel_rfl) rfl (fun w' hw' => by obtain ⟨q0, q1⟩ := hw'; go_simp) S0 ?_
      simp only [Act.put, List.setIfInBounds_toArray, List.set_cons_zero, List.set_cons_succ]
      refine u_take (i := 2) (v := (.pointer (some ⟨p, 0, none⟩))) 30 rfl rfl (by kernel_rfl) (by kernel_rfl) (by kernel_rfl) (by kernel_rfl) rfl (fun w' hw' => by obtain ⟨q0, q1⟩ := hw'; go_simp) S0 ?_
      simp only [Act.put, List.setIfInBounds_toArray, List.set_cons_zero, List.set_cons_succ]
      refine u_take (i := 3) (v := (.pointer (some ⟨p, 3, none⟩))) 31 rfl rfl (by kernel_rfl) (by kernel_rfl) (by kernel_rfl) (by kernel_rfl) rfl (fun w' hw' => by obtain ⟨q0, q1⟩ := hw'; go_simp) S0 ?_
      simp only [Act.put, List.setIfInBounds_toArray, List.set_cons_zero, List.set_cons_succ]
      refine u_take (i := 4) (v := vu) 32 rfl rfl (by kernel_rfl) (by kernel_rfl) (by kernel_rfl) (by kernel_rfl) rfl (fun w' hw' => by obtain ⟨q0, q1⟩ := hw'; go_simp) S0 ?_
      simp only [Act.put, List.setIfInBounds_toArray, List.set_cons_zero, List.set_cons_succ]
      refine u_take (i := 5) (v := (.string ⟨(lastW ws).toArray⟩)) 33 rfl rfl (by kernel_rfl) (by kernel_rfl) (by kernel_rfl) (by kernel_rfl) rfl (fun w' hw' => by obtain ⟨q0, q1⟩ := hw'; go_simp) S0 ?_
      simp only [Act.put, List.setIfInBounds_toArray, List.set_cons_zero, List.set_cons_succ]
      refine u_take (i := 6) (v := (.pointer (some ⟨p, 0, none⟩))) 34 rfl rfl (by kernel_rfl) (by kernel_rfl) (by kernel_rfl) (by kernel_rfl) rfl (fun w' hw' => by obtain ⟨q0, q1⟩ := hw'; go_simp) S0 ?_
      simp only [Act.put, List.setIfInBounds_toArray, List.set_cons_zero, List.set_cons_succ]
      refine u_take (i := 7) (v := (.pointer (some ⟨p, 0, none⟩))) 35 rfl rfl (by kernel_rfl) (by kernel_rfl) (by kernel_rfl) (by kernel_rfl) rfl (fun w' hw' => by obtain ⟨q0, q1⟩ := hw'; go_simp) S0 ?_
      simp only [Act.put, List.setIfInBounds_toArray, List.set_cons_zero, List.set_cons_succ]
      refine u_take (i := 8) (v := (.pointer (some ⟨p, 0, none⟩))) 36 rfl rfl (by kernel_rfl) (by kernel_rfl) (by kernel_rfl) (by kernel_rfl) rfl (fun w' hw' => by obtain ⟨q0, q1⟩ := hw'; go_simp) S0 ?_
      simp only [Act.put, List.setIfInBounds_toArray, List.set_cons_zero, List.set_cons_succ]
      refine u_take (i := 9) (v := (.slice bc r.code.length cc)) 37 rfl rfl (by kernel_rfl) (by kernel_rfl) (by kernel_rfl) (by kernel_rfl) rfl (fun w' hw' => by obtain ⟨q0, q1⟩ := hw'; go_simp) S0 ?_
      simp only [Act.put, List.setIfInBounds_toArray, List.set_cons_zero, List.set_cons_succ]
      refine u_take (i := 10) (v := (.int .i64 (r.code.length : Int))) 38 rfl rfl (by kernel_rfl) (by kernel_rfl) (by kernel_rfl) (by kernel_rfl) rfl (fun w' hw' => by obtain ⟨q0, q1⟩ := hw'; go_simp) S0 ?_
      simp only [Act.put, List.setIfInBounds_toArray, List.set_cons_zero, List.set_cons_succ]
      refine u_take (i := 11) (v := (.int .i64 (n : Int))) 39 rfl rfl (by kernel_rfl) (by kernel_rfl) (by kernel_rfl) (by kernel_rfl) rfl (fun w' hw' => by obtain ⟨q0, q1⟩ := hw'; go_simp) S0 ?_
      simp only [Act.put, List.setIfInBounds_toArray, List.set_cons_zero, List.set_cons_succ]
      refine u_take (i := 12) (v := (.agg #[.string ⟨(lastW ws).toArray⟩, .int .i64 (r.code.length : Int), .int .i64 (n : Int)])) 40 rfl rfl (by kernel_rfl) (by kernel_rfl) (by kernel_rfl) (by kernel_rfl) rfl (fun w' hw' => by obtain ⟨q0, q1⟩ := hw'; go_simp) S0 ?_
      simp only [Act.put, List.setIfInBounds_toArray, List.set_cons_zero, List.set_cons_succ]
      refine u_val (i := 13) (v := .slice (some ⟨w1'.drew.heap.size, 0, none⟩) 1 1) (w' := w1'.drew.alloc (.cells #[.string ⟨(lastW ws).toArray⟩, .int .i64 (r.code.length : Int), .int .i64 (n : Int)] 125)) (some 41) (by kernel_rfl) rfl rfl rfl (by go_simp) S1 ?_
      simp only [Act.put, List.setIfInBounds_toArray, List.set_cons_zero, List.set_cons_succ]
      refine u_val (i := 14) (v := .slice sb sn sc) (w' := w4) (some 42) (by kernel_rfl) rfl rfl rfl (run_append_op rfl rfl rfl HA.out) S4 ?_
      simp only [Act.put, List.setIfInBounds_toArray, List.set_cons_zero, List.set_cons_succ]
      refine u_val (i := 15) (v := .pointer (some ⟨p, 0, none⟩)) (w' := w4) (some 43) (by kernel_rfl) rfl rfl rfl (by go_simp) S4 ?_
      simp only [Act.put, List.setIfInBounds_toArray, List.set_cons_zero, List.set_cons_succ]
      refine u_val (i := 16) (v := .pointer (some ⟨p, 3, none⟩)) (w' := w4) (some 44) (by kernel_rfl) rfl rfl rfl (by go_simp) S4 ?_
      simp only [Act.put, List.setIfInBounds_toArray, List.set_cons_zero, List.set_cons_succ]
      have s43 := S4.2
      refine u_last (w' := w4.setCell ⟨p, 3, none⟩ (.slice sb sn sc)) (by kernel_rfl) rfl rfl rfl (by go_simp) (by kernel_rfl) ?_
      rw [HW5.out]
      clear S0 S1 S4 HA r5 s43 HW5
      go_wp2_with fail
      rw [HWW.out]
      clear HWW
      go_wp2_with fail
      refine HJ.mono ?_
      rintro e w1 ⟨rfl, k1⟩
      go_wp2_with fail
      refine (HP.out w1 k1).mono ?_
      rintro e w2 ⟨hPP, k2⟩
      have k12 := k1.trans k2
      unfold PPost at hPP
      rw [HQ.out] at hPP
      cases hq : parseW (zeroed ws) with
      | none =>
        rw [hq] at hPP
        subst hPP
        have hEnd : InPost r ws n S base p w (.returned (.bool false)) w2 := by
          unfold InPost insR
          rw [hq]
          rfl
        have hKK : Keeps (fun k => S k ∨ k = g) w (w2.alloc (.cells #[.int .i64 0, .int .i64 0, .int .i64 0, .int .i64 0, .int .u64 0] 37)) := (HT.out.2.transB k12 (fun _ _ f => f.elim)).alloc _
        have hEnd2 : InPost r ws n S base p w (.returned (.bool false)) (w2.alloc (.cells #[.int .i64 0, .int .i64 0, .int .i64 0, .int .i64 0, .int .u64 0] 37)) := by
          unfold InPost insR at hEnd ⊢
          rw [hq] at hEnd ⊢
          exact hEnd
        clear HJ HP HT k1 k2 k12 hEnd
        go_wp2_with fail
        go_ret
        exact ⟨hEnd2, hKK⟩
      | some i =>
        rw [hq] at hPP
        subst hPP
        obtain ⟨bc, cc, d0, dlt, dAll⟩ := tail_ins r ws n S base p w g i W w2 HT.out k12 (parse_wf hq (zeroed_noblank hnb)) hq hcb
        obtain ⟨op, ia, ib, ic, iN⟩ := i
        obtain ⟨w3, hw3⟩ : ∃ w3, w3 = w2.alloc (.cells #[.int .i64 op, .int .i64 ia, .int .i64 ib, .int .i64 ic, .int .u64 iN] 37) := ⟨_, rfl⟩
        obtain ⟨v', w4, sb, sn, sc, rfl, r1, r2, r3, r4, r5, r6⟩ := dAll w3 _ hw3
        have HA : Hid (_ = _) := r1
        obtain ⟨bi, hbi⟩ : ∃ bi, bi = w2.heap.size := ⟨_, rfl⟩
        have bb : w3.heap[bi]? = some (.cells #[.int .i64 op, .int .i64 ia, .int .i64 ib, .int .i64 ic, .int .u64 iN] 37 (0, 0)) := by rw [hw3, hbi]; exact alloc_block _ _
        have SW : ∀ X : World, Keeps (fun _ => False) w3 X → (X.cell? ⟨p, 0, none⟩ = some (.slice bc r.code.length cc) ∧ X.cell? ⟨bi, 0, none⟩ = some (.int .i64 op) ∧ X.cell? ⟨bi, 1, none⟩ = some (.int .i64 ia) ∧ X.cell? ⟨bi, 2, none⟩ = some (.int .i64 ib) ∧ X.cell? ⟨bi, 3, none⟩ = some (.int .i64 ic) ∧ X.cell? ⟨bi, 4, none⟩ = some (.int .u64 iN)) := fun X kX => by
          have c0 : w3.cell? ⟨p, 0, none⟩ = some (.slice bc r.code.length cc) := by rw [hw3]; exact ((Keeps.refl (fun _ => False) w2).alloc _).cell (fun f => f) d0
          exact ⟨kX.cell (fun f => f) c0, kX.cell (fun f => f) ((cell_of_block bb 0).trans rfl), kX.cell (fun f => f) ((cell_of_block bb 1).trans rfl), kX.cell (fun f => f) ((cell_of_block bb 2).trans rfl), kX.cell (fun f => f) ((cell_of_block bb 3).trans rfl), kX.cell (fun f => f) ((cell_of_block bb 4).trans rfl)⟩
        have S0 := SW w3.drew ((Keeps.refl _ w3).drew)
        have S1 := SW (w3.drew.alloc (.cells #[.int .i64 op, .int .i64 ia, .int .i64 ib, .int .i64 ic, .int .u64 iN] 37)) (((Keeps.refl _ w3).drew).alloc _)
        have S4 : (w4.cell? ⟨p, 0, none⟩ = some (.slice bc r.code.length cc) ∧ w4.cell? ⟨bi, 0, none⟩ = some (.int .i64 op) ∧ w4.cell? ⟨bi, 1, none⟩ = some (.int .i64 ia) ∧ w4.cell? ⟨bi, 2, none⟩ = some (.int .i64 ib) ∧ w4.cell? ⟨bi, 3, none⟩ = some (.int .i64 ic) ∧ w4.cell? ⟨bi, 4, none⟩ = some (.int .u64 iN)) := by
          have hlt3 : bi < w3.heap.size := lt_of_block bb
          have g := fun (k : Nat) v (hv : w3.cell? ⟨bi, k, none⟩ = some v) => r4 ⟨bi, k, none⟩ v (by show w2.heap.size ≤ bi; omega) hlt3 hv
          obtain ⟨z0, z1, z2, z3, z4, z5⟩ := SW w3 (Keeps.refl _ _)
          exact ⟨r2, g 0 _ z1, g 1 _ z2, g 2 _ z3, g 3 _ z4, g 4 _ z5⟩
        have HEnd : Hid (InPost r ws n S base p w (.returned (.bool true)) (w4.setCell ⟨p, 0, none⟩ (.slice sb sn sc)) ∧ Keeps (fun k => S k ∨ k = g) w (w4.setCell ⟨p, 0, none⟩ (.slice sb sn sc))) := ⟨r5, r6⟩
        have HW3 : Hid (w3 = w2.alloc (.cells #[.int .i64 op, .int .i64 ia, .int .i64 ib, .int .i64 ic, .int .u64 iN] 37)) := hw3
        have HBI : Hid (bi = w2.heap.size) := hbi
        clear dAll r1 r4 r5 r6 HJ HP HT k1 k2 k12 SW hq hw3 hbi bb
        go_wp2_with fail
        rw [← HBI.out, ← HW3.out]
        refine wp_until (S := fun W : World => W.cell? ⟨p, 0, none⟩ = some (.slice bc r.code.length cc) ∧ W.cell? ⟨bi, 0, none⟩ = some (.int .i64 op) ∧ W.cell? ⟨bi, 1, none⟩ = some (.int .i64 ia) ∧ W.cell? ⟨bi, 2, none⟩ = some (.int .i64 ib) ∧ W.cell? ⟨bi, 3, none⟩ = some (.int .i64 ic) ∧ W.cell? ⟨bi, 4, none⟩ = some (.int .u64 iN)) 10 11 rfl hmx ?_
        simp only [Array.replicate_succ, Array.replicate_zero, List.push_toArray, List.nil_append, List.cons_append]
        refine u_take (i := 0) (v := (.pointer (some ⟨p, 0, none⟩))) 56 rfl rfl (by kernel_rfl) (by kernel_rfl) (by kernel_rfl) (by kernel_rfl) rfl (fun w' hw' => by obtain ⟨q0, q1, q2, q3, q4, q5⟩ := hw'; go_simp) S0 ?_
        simp only [Act.put, List.setIfInBounds_toArray, List.set_cons_zero, List.set_cons_succ]
        refine u_take (i := 1) (v := (.pointer (some ⟨p, 0, none⟩))) 57 rfl rfl (by kernel_rfl) (by kernel_rfl) (by kernel_rfl) (by kernel_rfl) rfl (fun w' hw' => by obtain ⟨q0, q1, q2, q3, q4, q5⟩ := hw'; go_simp) S0 ?_
        simp only [Act.put, List.setIfInBounds_toArray, List.set_cons_zero, List.set_cons_succ]
        refine u_take (i := 2) (v := (.pointer (some ⟨p, 0, none⟩))) 58 rfl rfl (by kernel_rfl) (by kernel_rfl) (by kernel_rfl) (by kernel_rfl) rfl (fun w' hw' => by obtain ⟨q0, q1, q2, q3, q4, q5⟩ := hw'; go_simp) S0 ?_
        simp only [Act.put, List.setIfInBounds_toArray, List.set_cons_zero, List.set_cons_succ]
        refine u_take (i := 3) (v := (.pointer (some ⟨p, 0, none⟩))) 59 rfl rfl (by kernel_rfl) (by kernel_rfl) (by kernel_rfl) (by kernel_rfl) rfl (fun w' hw' => by obtain ⟨q0, q1, q2, q3, q4, q5⟩ := hw'; go_simp) S0 ?_
        simp only [Act.put, List.setIfInBounds_toArray, List.set_cons_zero, List.set_cons_succ]
        refine u_take (i := 4) (v := (.slice bc r.code.length cc)) 60 rfl rfl (by kernel_rfl) (by kernel_rfl) (by kernel_rfl) (by kernel_rfl) rfl (fun w' hw' => by obtain ⟨q0, q1, q2, q3, q4, q5⟩ := hw'; go_simp) S0 ?_
        simp only [Act.put, List.setIfInBounds_toArray, List.set_cons_zero, List.set_cons_succ]
        refine u_take (i := 5) (v := (.agg #[.int .i64 op, .int .i64 ia, .int .i64 ib, .int .i64 ic, .int .u64 iN])) 61 rfl rfl (by kernel_rfl) (by kernel_rfl) (by kernel_rfl) (by kernel_rfl) rfl (fun w' hw' => by obtain ⟨q0, q1, q2, q3, q4, q5⟩ := hw'; go_simp) S0 ?_
        simp only [Act.put, List.setIfInBounds_toArray, List.set_cons_zero, List.set_cons_succ]
        refine u_val (i := 6) (v := .slice (some ⟨w3.drew.heap.size, 0, none⟩) 1 1) (w' := w3.drew.alloc (.cells #[.int .i64 op, .int .i64 ia, .int .i64 ib, .int .i64 ic, .int .u64 iN] 37)) (some 62) (by kernel_rfl) rfl rfl rfl (by go_simp) S1 ?_
        simp only [Act.put, List.setIfInBounds_toArray, List.set_cons_zero, List.set_cons_succ]
        refine u_val (i := 7) (v := .slice sb sn sc) (w' := w4) (some 63) (by kernel_rfl) rfl rfl rfl (run_append_op rfl rfl rfl HA.out) S4 ?_
        simp only [Act.put, List.setIfInBounds_toArray, List.set_cons_zero, List.set_cons_succ]
        refine u_val (i := 8) (v := .pointer (some ⟨p, 0, none⟩)) (w' := w4) (some 64) (by kernel_rfl) rfl rfl rfl (by go_simp) S4 ?_
        simp only [Act.put, List.setIfInBounds_toArray, List.set_cons_zero, List.set_cons_succ]
        refine u_val (i := 9) (v := .pointer (some ⟨p, 0, none⟩)) (w' := w4) (some 65) (by kernel_rfl) rfl rfl rfl (by go_simp) S4 ?_
        simp only [Act.put, List.setIfInBounds_toArray, List.set_cons_zero, List.set_cons_succ]
        refine u_last (w' := w4.setCell ⟨p, 0, none⟩ (.slice sb sn sc)) (by kernel_rfl) rfl rfl rfl (by go_simp) (by kernel_rfl) ?_
        clear S0 S1 S4 HA r2 r3
        go_wp2_with fail
        go_ret
        exact ⟨HEnd.out.1, HEnd.out.2⟩
end Go.Proofs.YtkkmkfldldglgaaGreatDoor
