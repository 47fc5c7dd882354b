import Derived.Test.YthmiainhaebjiaaGreatDoorNcEvRa
import Derived.Test.YthmiainhaebjiaaGreatDoorNdEvRd
import Derived.Test.YthmiainhaebjiaaGreatDoorNeEvRe
import Derived.Test.YthmiainhaebjiaaGreatDoorNaEvD
import Derived.Test.YthmiainhaebjiaaGreatDoorM04EvG
import Derived.Test.YthmiainhaebjiaaGreatDoorM12EvK

/- A walk of the document's Formed (package parleyref13). No statement of the seat is proved here. -/
namespace Go.Proofs.YthmiainhaebjiaaGreatDoor
open Go.RowKit Go.Shelf

set_option maxRecDepth 100000 in
set_option maxHeartbeats 4000000 in
theorem rformed_out (th kd ad wd : Int) (own : Bool) (er : Int) (w : World) (h : th < 0 ∨ 8 ≤ th ∨ kd < 1 ∨ 12 < kd) : Calls Tryz.prog 84 #[.agg #[.int .i64 th, .int .i64 kd, .int .u64 ad, .int .u64 wd, .bool own, .int .i64 er]] w (FP th kd ad wd own er w) := by
  have hfe : formedE ⟨th, kd, ad, wd, own, er⟩ = false := by
    unfold formedE inB
    rcases h with h | h | h | h
    · simp [show ¬ 0 ≤ th by omega]
    · simp [show ¬ th < 8 by omega]
    · simp [show ¬ 1 ≤ kd by omega]
    · simp [show ¬ kd ≤ 12 by omega]
  by_cases a1 : th < 0
  · go_enter Tryz.func84, Tryz.ntmps84
    go_wp2_with fail
    go_ret
    exact FP.mk hfe
  · by_cases a2 : 8 ≤ th
    · go_enter Tryz.func84, Tryz.ntmps84
      go_wp2_with fail
      go_ret
      exact FP.mk hfe
    · by_cases a3 : kd < 1
      · go_enter Tryz.func84, Tryz.ntmps84
        go_wp2_with fail
        go_ret
        exact FP.mk hfe
      · have a4 : 12 < kd := by omega
        go_enter Tryz.func84, Tryz.ntmps84
        go_wp2_with fail
        go_ret
        exact FP.mk hfe
theorem rformed_any (e : Ev) (hwf : e.wf) (w : World) : Calls Tryz.prog 84 #[.agg e.cells] w fun ex w' => ex = .returned (.bool (formedE e)) ∧ Keeps (fun _ => False) w w' := by
  obtain ⟨th, kd, ad, wd, own, er⟩ := e
  obtain ⟨-, -, -, ⟨w0, -⟩, -⟩ := hwf
  dsimp only at w0
  by_cases h : th < 0 ∨ 8 ≤ th ∨ kd < 1 ∨ 12 < kd
  · exact rformed_out th kd ad wd own er w h
  · have t0 : 0 ≤ th := by omega
    have t8 : th < 8 := by omega
    rcases kd12 (k := kd) (by omega) (by omega) with rfl | rfl | rfl | rfl | rfl | rfl | rfl | rfl | rfl | rfl | rfl | rfl
    · exact rformed1 th ad wd own er w t0 t8 w0
    · exact rformed2 th ad wd own er w t0 t8 w0
    · exact rformed3 th ad wd own er w t0 t8 w0
    · exact rformed4 th ad wd own er w t0 t8 w0
    · exact rformed5 th ad wd own er w t0 t8 w0
    · exact rformed6 th ad wd own er w t0 t8 w0
    · exact rformed7 th ad wd own er w t0 t8 w0
    · exact rformed8 th ad wd own er w t0 t8 w0
    · exact rformed9 th ad wd own er w t0 t8 w0
    · exact rformed10 th ad wd own er w t0 t8 w0
    · exact rformed11 th ad wd own er w t0 t8 w0
    · exact rformed12 th ad wd own er w t0 t8 w0
end Go.Proofs.YthmiainhaebjiaaGreatDoor

/- A walk of the document's Put (package parleyref13). No statement of the seat is proved here. -/
namespace Go.Proofs.YthmiainhaebjiaaGreatDoor
open Go.RowKit Go.Shelf

theorem RW.upd {w : World} {B b : Nat} {S : St} {m : Nat → Value} (h : RW w B b S m) {T : Nat} (hT : T < 8) (f : Nat) (hf : f < 3) (x : Value) (s' : Sd) (m' : Nat → Value) (hm : ∀ i, i ≠ T → m' i = m i)
    (h0 : Value.int .i64 ((s'.st : Int) - 1) = if f = 0 then x else .int .i64 (((S.sd T).st : Int) - 1)) (h1 : Value.int .u64 s'.sn = if f = 1 then x else .int .u64 (S.sd T).sn) (h2 : m' T = if f = 2 then x else m T)
    (hrow : OwnR Cl2 2 28 w B (m' T) s'.wr.reverse) (hd : ∀ j g, j < 8 → j ≠ T → (m' T).ownBlock = some g → (m j).ownBlock ≠ some g) (hb : (m' T).ownBlock ≠ some b) :
    RW (w.setCell ⟨b, T * 3 + f, none⟩ x) B b ⟨S.n, S.t.set T s'⟩ m' := by
  obtain ⟨cs, c1, c2, c3, c4⟩ := h.blk
  have kS : Keeps (fun q => q = b) w (w.setCell ⟨b, T * 3 + f, none⟩ x) := Keeps.setCell (S := fun q => q = b) (Keeps.refl _ w) (.inr rfl) x
  refine ⟨⟨cs.setIfInBounds (T * 3 + f) x, block_set c1 _ _, by simpa using c2, ?_, fun i hi => ?_⟩, fun i hi => ?_, fun i j g hi hj hij hg => ?_, fun i hi => ?_, h.Bb, by simpa using h.t8⟩
  · rw [Array.getElem?_setIfInBounds, if_neg (by omega)]; exact c3
  · rw [sd_set h.t8 hT]
    by_cases hiT : i = T
    · subst hiT
      rw [if_pos rfl]
      obtain ⟨q1, q2, q3⟩ := c4 i hi
      have : f = 0 ∨ f = 1 ∨ f = 2 := by omega
      rcases this with rfl | rfl | rfl
      · refine ⟨?_, ?_, ?_⟩
        · rw [Array.getElem?_setIfInBounds, if_pos (by omega), if_pos (by omega), h0]; rfl
        · rw [Array.getElem?_setIfInBounds, if_neg (by omega), q2, h1]; rfl
        · rw [Array.getElem?_setIfInBounds, if_neg (by omega), q3, h2]; rfl
      · refine ⟨?_, ?_, ?_⟩
        · rw [Array.getElem?_setIfInBounds, if_neg (by omega), q1, h0]; rfl
        · rw [Array.getElem?_setIfInBounds, if_pos rfl, if_pos (by omega), h1]; rfl
        · rw [Array.getElem?_setIfInBounds, if_neg (by omega), q3, h2]; rfl
      · refine ⟨?_, ?_, ?_⟩
        · rw [Array.getElem?_setIfInBounds, if_neg (by omega), q1, h0]; rfl
        · rw [Array.getElem?_setIfInBounds, if_neg (by omega), q2, h1]; rfl
        · rw [Array.getElem?_setIfInBounds, if_pos rfl, if_pos (by omega), h2]; rfl
    · rw [if_neg hiT, hm i hiT]
      obtain ⟨q1, q2, q3⟩ := c4 i hi
      refine ⟨?_, ?_, ?_⟩
      · rw [Array.getElem?_setIfInBounds, if_neg (by omega)]; exact q1
      · rw [Array.getElem?_setIfInBounds, if_neg (by omega)]; exact q2
      · rw [Array.getElem?_setIfInBounds, if_neg (by omega)]; exact q3
  · rw [sd_set h.t8 hT]
    by_cases hiT : i = T
    · subst hiT
      rw [if_pos rfl]
      exact hrow.keeps kS (fun g hg e => hb (e ▸ hg))
    · rw [if_neg hiT, hm i hiT]
      exact (h.row i hi).keeps kS (fun g hg e => h.nb i hi (e ▸ hg))
  · by_cases hiT : i = T
    · subst hiT
      rw [hm j (fun q => hij q.symm)]
      exact hd j g hj (fun q => hij q.symm) hg
    · rw [hm i hiT] at hg
      by_cases hjT : j = T
      · subst hjT
        intro hq
        exact hd i g hi hij hq hg
      · rw [hm j hjT]
        exact h.dis i j g hi hj hij hg
  · by_cases hiT : i = T
    · subst hiT; exact hb
    · rw [hm i hiT]; exact h.nb i hi
theorem RW.num {w : World} {B b : Nat} {S : St} {m : Nat → Value} (h : RW w B b S m) (x : Int) : RW (w.setCell ⟨b, 24, none⟩ (.int .u64 x)) B b ⟨x, S.t⟩ m := by
  obtain ⟨cs, c1, c2, c3, c4⟩ := h.blk
  have kS : Keeps (fun q => q = b) w (w.setCell ⟨b, 24, none⟩ (.int .u64 x)) := Keeps.setCell (S := fun q => q = b) (Keeps.refl _ w) (.inr rfl) _
  refine ⟨⟨cs.setIfInBounds 24 (.int .u64 x), block_set c1 _ _, by simpa using c2, ?_, fun i hi => ?_⟩, fun i hi => (h.row i hi).keeps kS (fun g hg e => h.nb i hi (e ▸ hg)), h.dis, h.nb, h.Bb, h.t8⟩
  · rw [Array.getElem?_setIfInBounds, if_pos rfl, if_pos (by omega)]
  · obtain ⟨q1, q2, q3⟩ := c4 i hi
    refine ⟨?_, ?_, ?_⟩
    · rw [Array.getElem?_setIfInBounds, if_neg (by omega)]; exact q1
    · rw [Array.getElem?_setIfInBounds, if_neg (by omega)]; exact q2
    · rw [Array.getElem?_setIfInBounds, if_neg (by omega)]; exact q3
theorem RW.how {w : World} {B b : Nat} {S : St} {m : Nat → Value} (h : RW w B b S m) {T : Nat} (hT : T < 8) {s : Sd} (hs : S.sd T = s) (y : Nat) : RW (w.setCell ⟨b, T * 3, none⟩ (.int .i64 ((y : Int) - 1))) B b ⟨S.n, S.t.set T ⟨y, s.sn, s.wr⟩⟩ m := by
  subst hs
  exact h.upd hT 0 (by decide) _ ⟨y, (S.sd T).sn, (S.sd T).wr⟩ m (fun _ _ => rfl) rfl rfl rfl (h.row T hT) (fun j g hj hjT hg => h.dis T j g hT hj (fun q => hjT q.symm) hg) (h.nb T hT)
theorem RW.snap {w : World} {B b : Nat} {S : St} {m : Nat → Value} (h : RW w B b S m) {T : Nat} (hT : T < 8) {s : Sd} (hs : S.sd T = s) (y : Int) : RW (w.setCell ⟨b, T * 3 + 1, none⟩ (.int .u64 y)) B b ⟨S.n, S.t.set T ⟨s.st, y, s.wr⟩⟩ m := by
  subst hs
  exact h.upd hT 1 (by decide) _ ⟨(S.sd T).st, y, (S.sd T).wr⟩ m (fun _ _ => rfl) rfl rfl rfl (h.row T hT) (fun j g hj hjT hg => h.dis T j g hT hj (fun q => hjT q.symm) hg) (h.nb T hT)
theorem RW.wnil {w : World} {B b : Nat} {S : St} {m : Nat → Value} (h : RW w B b S m) (hB : B ≤ w.heap.size) {T : Nat} (hT : T < 8) {s : Sd} (hs : S.sd T = s) : RW (w.setCell ⟨b, T * 3 + 2, none⟩ (.slice none 0 0)) B b ⟨S.n, S.t.set T ⟨s.st, s.sn, []⟩⟩ (fun i => if i = T then .slice none 0 0 else m i) := by
  subst hs
  refine h.upd hT 2 (by decide) _ ⟨(S.sd T).st, (S.sd T).sn, []⟩ (fun i => if i = T then .slice none 0 0 else m i) (fun i hi => if_neg hi) rfl rfl (by simp) ?_ (fun j g hj hjT hg => ?_) ?_
  · rw [if_pos rfl]; exact OwnR.nilB _ _ _ _ _ hB
  · rw [if_pos rfl] at hg; cases hg
  · rw [if_pos rfl]; intro q; cases q
theorem RW.push {w w' : World} {B b : Nat} {S : St} {m : Nat → Value} (h : RW w B b S m) {T : Nat} (hT : T < 8) {s : Sd} (hs : S.sd T = s) (x : Int × Int) {v' : Value} (gr : Grew w w' (m T) v') (o' : OwnR Cl2 2 28 w' B v' (s.wr.reverse ++ [x])) : RW (w'.setCell ⟨b, T * 3 + 2, none⟩ v') B b ⟨S.n, S.t.set T ⟨s.st, s.sn, x :: s.wr⟩⟩ (fun i => if i = T then v' else m i) := by
  subst hs
  have hkb : w'.heap[b]? = w.heap[b]? := gr.keeps.block b h.lt (h.nb T hT)
  obtain ⟨cs, c1, c2⟩ := h.blk
  have hv' : ∀ g, v'.ownBlock = some g → (m T).ownBlock = some g ∨ w.heap.size ≤ g := fun g hg => by
    rcases gr.own with q | q
    · exact .inl (q ▸ hg)
    · exact .inr (q g hg)
  have hro : ∀ i, i < 8 → i ≠ T → OwnR Cl2 2 28 w' B (m i) (S.sd i).wr.reverse := fun i hi hiT => (h.row i hi).keeps gr.keeps (fun g hg q => h.dis i T g hi hT hiT hg q)
  obtain ⟨c2a, c2b, c2c⟩ := c2
  have kS : Keeps (fun q => q = b) w' (w'.setCell ⟨b, T * 3 + 2, none⟩ v') := Keeps.setCell (S := fun q => q = b) (Keeps.refl _ w') (.inr rfl) v'
  have hnb' : v'.ownBlock ≠ some b := fun hq => by
    rcases hv' b hq with q | q
    · exact h.nb T hT q
    · have := h.lt; omega
  refine ⟨⟨cs.setIfInBounds (T * 3 + 2) v', block_set (hkb.trans c1) _ _, by simpa using c2a, ?_, fun i hi => ?_⟩, fun i hi => ?_, fun i j g hi hj hij hg => ?_, fun i hi => ?_, h.Bb, by simpa using h.t8⟩
  · rw [Array.getElem?_setIfInBounds, if_neg (by omega)]; exact c2b
  · rw [sd_set h.t8 hT]
    obtain ⟨q1, q2, q3⟩ := c2c i hi
    by_cases hiT : i = T
    · subst hiT
      simp only [if_pos]
      refine ⟨?_, ?_, ?_⟩
      · rw [Array.getElem?_setIfInBounds, if_neg (by omega)]; exact q1
      · rw [Array.getElem?_setIfInBounds, if_neg (by omega)]; exact q2
      · rw [Array.getElem?_setIfInBounds, if_pos rfl, if_pos (by omega)]
    · simp only [if_neg hiT]
      refine ⟨?_, ?_, ?_⟩
      · rw [Array.getElem?_setIfInBounds, if_neg (by omega)]; exact q1
      · rw [Array.getElem?_setIfInBounds, if_neg (by omega)]; exact q2
      · rw [Array.getElem?_setIfInBounds, if_neg (by omega)]; exact q3
  · rw [sd_set h.t8 hT]
    by_cases hiT : i = T
    · subst hiT
      simp only [if_pos, List.reverse_cons]
      exact o'.keeps kS (fun g hg e => hnb' (e ▸ hg))
    · simp only [if_neg hiT]
      exact (hro i hi hiT).keeps kS (fun g hg e => h.nb i hi (e ▸ hg))
  · by_cases hiT : i = T
    · subst hiT
      simp only [if_pos] at hg
      have hji : j ≠ i := fun q => hij q.symm
      simp only [if_neg hji]
      intro hq
      rcases hv' g hg with r | r
      · exact h.dis j i g hj hi hji hq r
      · have := (own_block (h.row j hj).own hq).1; omega
    · simp only [if_neg hiT] at hg
      by_cases hjT : j = T
      · subst hjT
        simp only [if_pos]
        intro hq
        rcases hv' g hq with r | r
        · exact h.dis i j g hi hj hij hg r
        · have := (own_block (h.row i hi).own hg).1; omega
      · simp only [if_neg hjT]
        exact h.dis i j g hi hj hij hg
  · by_cases hiT : i = T
    · subst hiT; simp only [if_pos]; exact hnb'
    · simp only [if_neg hiT]; exact h.nb i hi
/-- What the numbers of a state are. -/
structure SOk (S : St) (k : Nat) : Prop where
  st : ∀ i, 1 ≤ (S.sd i).st ∧ (S.sd i).st ≤ 4
  sn : ∀ i, 0 ≤ (S.sd i).sn ∧ (S.sd i).sn < 18446744073709551616
  wr : ∀ i, (S.sd i).wr.length ≤ k
  n : 0 ≤ S.n ∧ S.n ≤ k
theorem st0_ok : SOk st0 0 := by
  have h : ∀ i, st0.sd i = sd0 := fun i => by
    simp only [St.sd, st0, List.getElem?_replicate]
    split <;> rfl
  exact ⟨fun i => by rw [h]; decide, fun i => by rw [h]; decide, fun i => by rw [h]; decide, by decide⟩
theorem next_ok {S : St} {k : Nat} {e : Ev} (h : SOk S k) (h8 : S.t.length = 8) (hw : e.wf) (he : errE S e = 0) : SOk (nextS S e) (k + 1) := by
  obtain ⟨hf, ht⟩ := err_turn he
  obtain ⟨f0, f1, -, -⟩ := formed_in hf
  have hsd := next_sd (S := S) (e := e) h8 f0 f1
  obtain ⟨-, -, -, ⟨w0, w1⟩, -⟩ := hw
  refine ⟨fun i => ?_, fun i => ?_, fun i => ?_, ?_⟩
  · rw [hsd]; split
    · show 1 ≤ turnN _ e ∧ turnN _ e ≤ 4
      exact ⟨by omega, turn_le⟩
    · exact h.st i
  · rw [hsd]; split
    · show 0 ≤ (if e.kd = 1 ∨ e.kd = 4 then e.wd else (S.sd _).sn) ∧ (if e.kd = 1 ∨ e.kd = 4 then e.wd else (S.sd _).sn) < _
      split
      · exact ⟨w0, w1⟩
      · exact h.sn _
    · exact h.sn i
  · rw [hsd]; split
    · show (if e.kd = 1 then [] else if e.kd = 3 then (e.ad, e.wd) :: (S.sd _).wr else (S.sd _).wr).length ≤ k + 1
      have := h.wr e.th.toNat
      repeat' split
      · simp
      · simp; omega
      · omega
    · have := h.wr i; omega
  · have := h.n
    show 0 ≤ (if e.kd = 6 ∧ _ then S.n + 1 else S.n) ∧ (if e.kd = 6 ∧ _ then S.n + 1 else S.n) ≤ ((k + 1 : Nat) : Int)
    split <;> omega
set_option maxRecDepth 100000 in
set_option maxHeartbeats 16000000 in
theorem rput_any (B b : Nat) (S : St) (m : Nat → Value) (k : Nat) (hkk : k ≤ 4611686018427) (hk : SOk S k) (e : Ev) (hwf : e.wf) (w : World) (h : RW w B b S m) (hBw : B ≤ w.heap.size) :
    Calls Tryz.prog 68 #[.pointer (some ⟨b, 0, none⟩), .agg e.cells] w fun ex w' => ex = .returned (.int .i64 (errE S e)) ∧ (errE S e = 0 → ∃ m', RW w' B b (nextS S e) m') ∧ Keeps (fun q => B ≤ q) w w' := by
  have F := fun W => rformed_any e hwf W
  cases hf : formedE e with
  | false =>
    have hE : errE S e = 201 := by unfold errE errS; rw [hf]; rfl
    rw [hE]
    rw [hf] at F
    clear hf hE
    obtain ⟨th, kd, ad, wd, own, er⟩ := e
    have F2 : ∀ W, Calls Tryz.prog 84 #[.agg #[.int .i64 th, .int .i64 kd, .int .u64 ad, .int .u64 wd, .bool own, .int .i64 er]] W fun ex w' => ex = .returned (.bool false) ∧ Keeps (fun _ => False) W w' := F
    obtain ⟨k0, x0, x1, x2, x3, x4, x5⟩ := boxed w th kd ad wd own er
    show Calls Tryz.prog 68 #[.pointer (some ⟨b, 0, none⟩), .agg #[.int .i64 th, .int .i64 kd, .int .u64 ad, .int .u64 wd, .bool own, .int .i64 er]] w _
    go_enter Tryz.func68, Tryz.ntmps68
    go_wp2_with fail
    refine (F2 _).mono ?_
    rintro ex w1 ⟨rfl, k1⟩
    go_wp2_with fail
    go_ret
    exact ⟨rfl, fun q => by omega, (k0.trans k1).mono (fun _ _ f => f.elim)⟩
  | true =>
    rw [hf] at F
    obtain ⟨t0, t8, q0, q1⟩ := formed_in hf
    obtain ⟨T, hT⟩ : ∃ T : Nat, e.th = (T : Int) := ⟨e.th.toNat, by omega⟩
    have hT8 : T < 8 := by omega
    have hTn : e.th.toNat = T := by omega
    have hst := hk.st T
    have hsn := hk.sn T
    have hwr := hk.wr T
    obtain ⟨hn0, hn1⟩ := hk.n
    have hEE : errE S e = if turnN (S.sd T).st e = 0 then 230 else if (heldB S && clkB e.kd) = true then 231 else if numE S.n (S.sd T) e = false then 232 else if ownE (S.sd T) e = false then 233 else 0 := by
      unfold errE errS; rw [hf, hTn]; rfl
    have HR : Hid (∀ W, Keeps (fun _ => False) w W → RW W B b S m) := fun W q => h.keeps q
    have TR := fun W => rturn_any (S.sd T).st hst.1 hst.2 e q0 q1 W
    have NU : Hid (∀ W, Keeps (fun _ => False) w W → _) := fun W q => rnumber_any b T S.n hn0 (by omega) (S.sd T) hst.1 hsn.1 hsn.2 e q0 q1 W (HR.out W q).at.1 ((HR.out W q).at.2 T hT8).1 ((HR.out W q).at.2 T hT8).2.1
    have OW : Hid (∀ W, Keeps (fun _ => False) w W → _) := fun W q => rown_any b T (S.sd T) hst.1 (by omega) e (m T) W ((HR.out W q).at.2 T hT8).1 ((HR.out W q).at.2 T hT8).2.2 (((HR.out W q).row T hT8).els cl2_len)
    have LK : Hid (∀ W, Keeps (fun _ => False) w W → (S.sd T).st ≠ 3 → _) := fun W q h3 => by
      have := rlocked_any S T hT8 b W (fun i hi => ((HR.out W q).at.2 i hi).1)
      rw [lock_held h.t8 h3] at this
      exact this
    have HL : Hid (clkB e.kd = true → turnN (S.sd T).st e ≠ 0 → (S.sd T).st ≠ 3) := fun hc ht h3 => by
      apply ht
      rw [h3]
      simp only [clkB, Bool.or_eq_true, decide_eq_true_eq] at hc
      rcases hc with (q | q) | q <;> simp [turnN, q]
    have hne : ¬ w.heap.size = b := by have := h.lt; omega
    have hNX : nextS S e = ⟨if e.kd = 6 ∧ (S.sd T).st = 3 then S.n + 1 else S.n, S.t.set T (nextSd (S.sd T) e)⟩ := by unfold nextS; rw [hTn]
    have HNX : Hid (nextS S e = _) := hNX
    have hnx2 : nextSd (S.sd T) e = ⟨turnN (S.sd T).st e, if e.kd = 1 ∨ e.kd = 4 then e.wd else (S.sd T).sn, if e.kd = 1 then [] else if e.kd = 3 then (e.ad, e.wd) :: (S.sd T).wr else (S.sd T).wr⟩ := rfl
    clear hNX hTn
    generalize hsd : S.sd T = sd at *
    have HSD : Hid (S.sd T = sd) := hsd
    clear hsd
    have hnE : numE S.n sd e = true → e.kd = 6 → sd.st = 3 → e.wd = S.n + 1 := fun hn h6 h3 => by
      unfold numE at hn
      simpa [h6, h3] using hn
    have HNE : Hid (numE S.n sd e = true → e.kd = 6 → sd.st = 3 → e.wd = S.n + 1) := hnE
    rw [hEE]
    clear hnE hEE hf
    generalize htn : turnN sd.st e = tn at *
    generalize heldB S = hd at *
    generalize hnu : numE S.n sd e = nu at *
    generalize ownE sd e = ow at *
    obtain ⟨th, kd, ad, wd, own, er⟩ := e
    obtain ⟨st, sn, wr⟩ := sd
    dsimp only at *
    subst hT
    clear htn hnu
    generalize hzz : (if tn = 0 then (230 : Int) else if (hd && clkB kd) = true then 231 else if nu = false then 232 else if ow = false then 233 else 0) = z
    have HZ : Hid (z = if tn = 0 then (230 : Int) else if (hd && clkB kd) = true then 231 else if nu = false then 232 else if ow = false then 233 else 0) := hzz.symm
    clear hzz
    have F2 : ∀ W, Calls Tryz.prog 84 #[.agg #[.int .i64 (T : Int), .int .i64 kd, .int .u64 ad, .int .u64 wd, .bool own, .int .i64 er]] W fun ex w' => ex = .returned (.bool true) ∧ Keeps (fun _ => False) W w' := F
    have TR2 : ∀ W, Calls Tryz.prog 85 #[.int .i64 ((st : Int) - 1), .agg #[.int .i64 (T : Int), .int .i64 kd, .int .u64 ad, .int .u64 wd, .bool own, .int .i64 er]] W fun ex w' => ex = .returned (.int .i64 ((tn : Int) - 1)) ∧ Keeps (fun _ => False) W w' := TR
    have NU2 : Hid (∀ W, Keeps (fun _ => False) w W → Calls Tryz.prog 87 #[.pointer (some ⟨b, 0, none⟩), .pointer (some ⟨b, T * 3, none⟩), .agg #[.int .i64 (T : Int), .int .i64 kd, .int .u64 ad, .int .u64 wd, .bool own, .int .i64 er]] W fun ex w' => ex = .returned (.bool nu) ∧ Keeps (fun _ => False) W w') := NU
    have OW2 : Hid (∀ W, Keeps (fun _ => False) w W → Calls Tryz.prog 88 #[.pointer (some ⟨b, T * 3, none⟩), .agg #[.int .i64 (T : Int), .int .i64 kd, .int .u64 ad, .int .u64 wd, .bool own, .int .i64 er]] W fun ex w' => ex = .returned (.bool ow) ∧ Keeps (fun _ => False) W w') := OW
    obtain ⟨k0, x0, x1, x2, x3, x4, x5⟩ := boxed w (T : Int) kd ad wd own er
    have HB : Hid (∀ W, Keeps (fun _ => False) (w.alloc (.cells #[.int .i64 (T : Int), .int .i64 kd, .int .u64 ad, .int .u64 wd, .bool own, .int .i64 er] 60)) W → W.heap[w.heap.size]? = some (.cells #[.int .i64 (T : Int), .int .i64 kd, .int .u64 ad, .int .u64 wd, .bool own, .int .i64 er] 60 (0, 0))) := fun W q => (q.block _ (lt_of_block (MapKept.heap_alloc w (.cells #[.int .i64 (T : Int), .int .i64 kd, .int .u64 ad, .int .u64 wd, .bool own, .int .i64 er] 60)).1) (fun f => f)).trans (MapKept.heap_alloc w (.cells #[.int .i64 (T : Int), .int .i64 kd, .int .u64 ad, .int .u64 wd, .bool own, .int .i64 er] 60)).1
    show Calls Tryz.prog 68 #[.pointer (some ⟨b, 0, none⟩), .agg #[.int .i64 (T : Int), .int .i64 kd, .int .u64 ad, .int .u64 wd, .bool own, .int .i64 er]] w _
    have hTi : (T : Int) < 8 := by omega
    have hT0 : (0 : Int) ≤ T := by omega
    have h24 : ¬ T * 3 = 24 := by omega
    have h24' : ¬ 24 = T * 3 := by omega
    clear F TR NU OW
    go_enter Tryz.func68, Tryz.ntmps68
    go_wp2_with fail
    refine (F2 _).mono ?_
    rintro ex w1 ⟨rfl, k1⟩
    have K1 := k0.trans k1
    clear x0 x1 x2 x3 x4 x5
    obtain ⟨x0, x1, x2, x3, x4, x5⟩ := blk6' (HB.out _ k1)
    obtain ⟨c24, cc⟩ := (HR.out _ K1).at
    obtain ⟨c0, c1, c2⟩ := cc T hT8
    rw [HSD.out] at c0 c1
    go_wp2_with fail
    go_quiet (fail)
    go_wp2_with fail
    have KY := K1.drewN nq
    have kY := k1.drewN nq
    generalize w1.drewN nq = Y at *
    clear x0 x1 x2 x3 x4 x5 c0 c1 c2 c24 cc
    have hS : Y.drew.heap[w.heap.size]? = some (.cells #[.int .i64 (T : Int), .int .i64 kd, .int .u64 ad, .int .u64 wd, .bool own, .int .i64 er] 60 (0, 0)) ∧ Y.drew.cell? ⟨b, T * 3, none⟩ = some (.int .i64 ((st : Int) - 1)) := ⟨HB.out _ kY.drew, by have := ((HR.out _ KY.drew).at.2 T hT8).1; rwa [HSD.out] at this⟩
    have HS : Hid (∀ X, Keeps (fun _ => False) Y.drew X → X.heap[w.heap.size]? = some (.cells #[.int .i64 (T : Int), .int .i64 kd, .int .u64 ad, .int .u64 wd, .bool own, .int .i64 er] 60 (0, 0)) ∧ X.cell? ⟨b, T * 3, none⟩ = some (.int .i64 ((st : Int) - 1))) := fun X q => ⟨HB.out _ (kY.drew.trans q), by have := ((HR.out _ (KY.drew.trans q)).at.2 T hT8).1; rwa [HSD.out] at this⟩
    refine wp_held_end (S := fun X => X.heap[w.heap.size]? = some (.cells #[.int .i64 (T : Int), .int .i64 kd, .int .u64 ad, .int .u64 wd, .bool own, .int .i64 er] 60 (0, 0)) ∧ X.cell? ⟨b, T * 3, none⟩ = some (.int .i64 ((st : Int) - 1))) 7 rfl hmx2 ?_
    simp only [Array.replicate_succ, Array.replicate_zero, List.push_toArray, List.nil_append, List.cons_append]
    refine held_take (i := 0) (v := .pointer (some ⟨b, T * 3, none⟩)) 16 rfl rfl (by kernel_rfl) (by kernel_rfl) (by kernel_rfl) rfl (fun w' hw' => by go_simp) hS ?_
    simp only [Act.put, List.setIfInBounds_toArray, List.set_cons_zero, List.set_cons_succ]
    refine held_take (i := 1) (v := .pointer (some ⟨b, T * 3, none⟩)) 17 rfl rfl (by kernel_rfl) (by kernel_rfl) (by kernel_rfl) rfl (fun w' hw' => by go_simp) hS ?_
    simp only [Act.put, List.setIfInBounds_toArray, List.set_cons_zero, List.set_cons_succ]
    refine held_take (i := 2) (v := .pointer (some ⟨b, T * 3, none⟩)) 18 rfl rfl (by kernel_rfl) (by kernel_rfl) (by kernel_rfl) rfl (fun w' hw' => by go_simp) hS ?_
    simp only [Act.put, List.setIfInBounds_toArray, List.set_cons_zero, List.set_cons_succ]
    refine held_take (i := 3) (v := .int .i64 ((st : Int) - 1)) 19 rfl rfl (by kernel_rfl) (by kernel_rfl) (by kernel_rfl) rfl (fun w' hw' => by have q9 := hw'.2; go_simp) hS ?_
    simp only [Act.put, List.setIfInBounds_toArray, List.set_cons_zero, List.set_cons_succ]
    refine held_take (i := 4) (v := .agg #[.int .i64 (T : Int), .int .i64 kd, .int .u64 ad, .int .u64 wd, .bool own, .int .i64 er]) 20 rfl rfl (by kernel_rfl) (by kernel_rfl) (by kernel_rfl) rfl (fun w' hw' => by obtain ⟨y0, y1, y2, y3, y4, y5⟩ := blk6' hw'.1; go_simp) hS ?_
    simp only [Act.put, List.setIfInBounds_toArray, List.set_cons_zero, List.set_cons_succ]
    refine held_call (i := 5) 21 (by kernel_rfl) rfl rfl rfl (by go_simp) ((TR2 _).mono ?_)
    rintro ex w3 ⟨rfl, k3⟩
    replace hS := HS.out _ k3
    refine ⟨_, rfl, hS, ?_⟩
    simp only [Act.put, List.setIfInBounds_toArray, List.set_cons_zero, List.set_cons_succ]
    refine held_take (i := 6) (v := .int .i64 ((tn : Int) - 1)) 6 rfl rfl (by kernel_rfl) (by kernel_rfl) (by kernel_rfl) rfl (fun w' hw' => by go_simp) hS ?_
    simp only [Act.put, List.setIfInBounds_toArray, List.set_cons_zero, List.set_cons_succ]
    refine held_end (by kernel_rfl) ?_ _
    have K3 := KY.drew.trans k3
    have kB3 := kY.drew.trans k3
    clear HS hS KY kY K1 k1 TR2 F2
    by_cases h0 : tn = 0
    · have HZ2 : Hid (z = 230) := by unfold Hid; rw [HZ.out, if_pos h0]
      subst h0
      clear HZ
      go_wp2_with fail
      go_ret
      exact ⟨by rw [HZ2.out]; rfl, fun q => by have := HZ2.out; omega, K3.mono (fun _ _ f => f.elim)⟩
    · have hdn : decide (((tn : Int) - 1) < 0) = false := decide_eq_false (by omega)
      have hdn2 : ¬ ((tn : Int) - 1) < 0 := by omega
      obtain ⟨x0, x1, x2, x3, x4, x5⟩ := blk6' (HB.out _ kB3)
      by_cases h1 : kd = 1
      · subst h1
        have h3 := HL.out (by rfl) h0
        have LK2 := LK.out _ K3 h3
        cases hd with
        | true =>
          have HZ2 : Hid (z = 231) := by unfold Hid; rw [HZ.out, if_neg h0]; rfl
          clear HZ
          go_wp2_with fail
          refine LK2.mono ?_
          rintro ex w' ⟨rfl, rfl⟩
          go_wp2_with fail
          go_ret
          exact ⟨by rw [HZ2.out]; rfl, fun q => by have := HZ2.out; omega, K3.mono (fun _ _ f => f.elim)⟩
        | false =>
          have HZ1 : Hid (z = if nu = false then 232 else if ow = false then 233 else 0) := by unfold Hid; rw [HZ.out, if_neg h0, if_neg (by simp)]
          clear HZ
          go_wp2_with fail
          refine LK2.mono ?_
          rintro ex w' ⟨rfl, hw'⟩
          obtain rfl := hw'
          go_wp2_with fail
          refine (NU2.out _ K3).mono ?_
          rintro ex w4 ⟨rfl, k4⟩
          have K4 := K3.trans k4
          have kB4 := kB3.trans k4
          clear x0 x1 x2 x3 x4 x5
          obtain ⟨x0, x1, x2, x3, x4, x5⟩ := blk6' (HB.out _ kB4)
          cases nu with
          | false =>
            have HZ2 : Hid (z = 232) := HZ1.out
            clear HZ1
            go_wp2_with fail
            go_ret
            exact ⟨by rw [HZ2.out]; rfl, fun q => by have := HZ2.out; omega, K4.mono (fun _ _ f => f.elim)⟩
          | true =>
            go_wp2_with fail
            refine (OW2.out _ K4).mono ?_
            rintro ex w5 ⟨rfl, k5⟩
            have K5 := K4.trans k5
            have kB5 := kB4.trans k5
            clear x0 x1 x2 x3 x4 x5
            obtain ⟨x0, x1, x2, x3, x4, x5⟩ := blk6' (HB.out _ kB5)
            cases ow with
            | false =>
              have HZ2 : Hid (z = 233) := HZ1.out
              clear HZ1
              go_wp2_with fail
              go_ret
              exact ⟨by rw [HZ2.out]; rfl, fun q => by have := HZ2.out; omega, K5.mono (fun _ _ f => f.elim)⟩
            | true =>
              have HZ2 : Hid (z = 0) := HZ1.out
              clear HZ1
              have H5 := HR.out _ K5
              have KB5 : Keeps (fun q => B ≤ q) w w5 := K5.mono (fun _ _ f => f.elim)
              have hB5 : B ≤ w5.heap.size := Nat.le_trans hBw K5.size
              obtain ⟨c24, cc⟩ := H5.at
              obtain ⟨c0, c1, c2⟩ := cc T hT8
              rw [HSD.out] at c0 c1
              have fz : ∀ j, w5.frozen? ⟨b, j, none⟩ = false := fun j => by obtain ⟨cs, hb, _⟩ := H5.blk; exact frozen_of_block hb j
              have f0 := fz (T * 3)
              have f1 := fz (T * 3 + 1)
              have f2 := fz (T * 3 + 2)
              have f24 := fz 24
              clear fz cc
              have HF : ∃ m', RW (((w5.setCell ⟨b, T * 3 + 2, none⟩ (.slice none 0 0)).setCell ⟨b, T * 3 + 1, none⟩ (.int .u64 wd)).setCell ⟨b, T * 3, none⟩ (.int .i64 ((tn : Int) - 1))) B b (nextS S ⟨(T : Int), 1, ad, wd, own, er⟩) m' := by
                have a1 := H5.wnil hB5 hT8 HSD.out
                have a2 := a1.snap hT8 (s := ⟨st, sn, []⟩) (by rw [sd_set H5.t8 hT8, if_pos rfl]) wd
                have a3 := a2.how hT8 (s := ⟨st, wd, []⟩) (by rw [sd_set (by simpa using H5.t8) hT8, if_pos rfl]) tn
                refine ⟨fun i => if i = T then .slice none 0 0 else m i, ?_⟩
                rw [HNX.out, hnx2]
                simpa using a3
              have HFH : Hid _ := HF
              have KF : Keeps (fun q => B ≤ q) w (((w5.setCell ⟨b, T * 3 + 2, none⟩ (.slice none 0 0)).setCell ⟨b, T * 3 + 1, none⟩ (.int .u64 wd)).setCell ⟨b, T * 3, none⟩ (.int .i64 ((tn : Int) - 1))) := ((KB5.setCell (.inr H5.Bb) _).setCell (.inr H5.Bb) _).setCell (.inr H5.Bb) _
              clear HF
              go_wp2_with fail
              go_ret
              exact ⟨by rw [HZ2.out]; rfl, fun _ => HFH.out, KF⟩
      · have e1 : (kd == 1) = false := by simpa using h1
        by_cases h4 : kd = 4
        · subst h4
          have h3 := HL.out (by rfl) h0
          have LK2 := LK.out _ K3 h3
          cases hd with
          | true =>
            have HZ2 : Hid (z = 231) := by unfold Hid; rw [HZ.out, if_neg h0]; rfl
            clear HZ
            go_wp2_with fail
            refine LK2.mono ?_
            rintro ex w' ⟨rfl, rfl⟩
            go_wp2_with fail
            go_ret
            exact ⟨by rw [HZ2.out]; rfl, fun q => by have := HZ2.out; omega, K3.mono (fun _ _ f => f.elim)⟩
          | false =>
            have HZ1 : Hid (z = if nu = false then 232 else if ow = false then 233 else 0) := by unfold Hid; rw [HZ.out, if_neg h0, if_neg (by simp)]
            clear HZ
            go_wp2_with fail
            refine LK2.mono ?_
            rintro ex w' ⟨rfl, hw'⟩
            obtain rfl := hw'
            go_wp2_with fail
            refine (NU2.out _ K3).mono ?_
            rintro ex w4 ⟨rfl, k4⟩
            have K4 := K3.trans k4
            have kB4 := kB3.trans k4
            clear x0 x1 x2 x3 x4 x5
            obtain ⟨x0, x1, x2, x3, x4, x5⟩ := blk6' (HB.out _ kB4)
            cases nu with
            | false =>
              have HZ2 : Hid (z = 232) := HZ1.out
              clear HZ1
              go_wp2_with fail
              go_ret
              exact ⟨by rw [HZ2.out]; rfl, fun q => by have := HZ2.out; omega, K4.mono (fun _ _ f => f.elim)⟩
            | true =>
              go_wp2_with fail
              refine (OW2.out _ K4).mono ?_
              rintro ex w5 ⟨rfl, k5⟩
              have K5 := K4.trans k5
              have kB5 := kB4.trans k5
              clear x0 x1 x2 x3 x4 x5
              obtain ⟨x0, x1, x2, x3, x4, x5⟩ := blk6' (HB.out _ kB5)
              cases ow with
              | false =>
                have HZ2 : Hid (z = 233) := HZ1.out
                clear HZ1
                go_wp2_with fail
                go_ret
                exact ⟨by rw [HZ2.out]; rfl, fun q => by have := HZ2.out; omega, K5.mono (fun _ _ f => f.elim)⟩
              | true =>
                have HZ2 : Hid (z = 0) := HZ1.out
                clear HZ1
                have H5 := HR.out _ K5
                have KB5 : Keeps (fun q => B ≤ q) w w5 := K5.mono (fun _ _ f => f.elim)
                have hB5 : B ≤ w5.heap.size := Nat.le_trans hBw K5.size
                obtain ⟨c24, cc⟩ := H5.at
                obtain ⟨c0, c1, c2⟩ := cc T hT8
                rw [HSD.out] at c0 c1
                have fz : ∀ j, w5.frozen? ⟨b, j, none⟩ = false := fun j => by obtain ⟨cs, hb, _⟩ := H5.blk; exact frozen_of_block hb j
                have f0 := fz (T * 3)
                have f1 := fz (T * 3 + 1)
                have f2 := fz (T * 3 + 2)
                have f24 := fz 24
                clear fz cc
                have HF : ∃ m', RW ((w5.setCell ⟨b, T * 3 + 1, none⟩ (.int .u64 wd)).setCell ⟨b, T * 3, none⟩ (.int .i64 ((tn : Int) - 1))) B b (nextS S ⟨(T : Int), 4, ad, wd, own, er⟩) m' := by
                  have a2 := H5.snap hT8 HSD.out wd
                  have a3 := a2.how hT8 (s := ⟨st, wd, wr⟩) (by rw [sd_set (by simpa using H5.t8) hT8, if_pos rfl]) tn
                  refine ⟨m, ?_⟩
                  rw [HNX.out, hnx2]
                  simpa using a3
                have HFH : Hid _ := HF
                have KF : Keeps (fun q => B ≤ q) w ((w5.setCell ⟨b, T * 3 + 1, none⟩ (.int .u64 wd)).setCell ⟨b, T * 3, none⟩ (.int .i64 ((tn : Int) - 1))) := (KB5.setCell (.inr H5.Bb) _).setCell (.inr H5.Bb) _
                clear HF
                go_wp2_with fail
                go_ret
                exact ⟨by rw [HZ2.out]; rfl, fun _ => HFH.out, KF⟩
        · have e4 : (kd == 4) = false := by simpa using h4
          by_cases h5 : kd = 5
          · subst h5
            have h3 := HL.out (by rfl) h0
            have LK2 := LK.out _ K3 h3
            cases hd with
            | true =>
              have HZ2 : Hid (z = 231) := by unfold Hid; rw [HZ.out, if_neg h0]; rfl
              clear HZ
              go_wp2_with fail
              refine LK2.mono ?_
              rintro ex w' ⟨rfl, rfl⟩
              go_wp2_with fail
              go_ret
              exact ⟨by rw [HZ2.out]; rfl, fun q => by have := HZ2.out; omega, K3.mono (fun _ _ f => f.elim)⟩
            | false =>
              have HZ1 : Hid (z = if nu = false then 232 else if ow = false then 233 else 0) := by unfold Hid; rw [HZ.out, if_neg h0, if_neg (by simp)]
              clear HZ
              go_wp2_with fail
              refine LK2.mono ?_
              rintro ex w' ⟨rfl, hw'⟩
              obtain rfl := hw'
              go_wp2_with fail
              refine (NU2.out _ K3).mono ?_
              rintro ex w4 ⟨rfl, k4⟩
              have K4 := K3.trans k4
              have kB4 := kB3.trans k4
              clear x0 x1 x2 x3 x4 x5
              obtain ⟨x0, x1, x2, x3, x4, x5⟩ := blk6' (HB.out _ kB4)
              cases nu with
              | false =>
                have HZ2 : Hid (z = 232) := HZ1.out
                clear HZ1
                go_wp2_with fail
                go_ret
                exact ⟨by rw [HZ2.out]; rfl, fun q => by have := HZ2.out; omega, K4.mono (fun _ _ f => f.elim)⟩
              | true =>
                go_wp2_with fail
                refine (OW2.out _ K4).mono ?_
                rintro ex w5 ⟨rfl, k5⟩
                have K5 := K4.trans k5
                have kB5 := kB4.trans k5
                clear x0 x1 x2 x3 x4 x5
                obtain ⟨x0, x1, x2, x3, x4, x5⟩ := blk6' (HB.out _ kB5)
                cases ow with
                | false =>
                  have HZ2 : Hid (z = 233) := HZ1.out
                  clear HZ1
                  go_wp2_with fail
                  go_ret
                  exact ⟨by rw [HZ2.out]; rfl, fun q => by have := HZ2.out; omega, K5.mono (fun _ _ f => f.elim)⟩
                | true =>
                  have HZ2 : Hid (z = 0) := HZ1.out
                  clear HZ1
                  have H5 := HR.out _ K5
                  have KB5 : Keeps (fun q => B ≤ q) w w5 := K5.mono (fun _ _ f => f.elim)
                  have hB5 : B ≤ w5.heap.size := Nat.le_trans hBw K5.size
                  obtain ⟨c24, cc⟩ := H5.at
                  obtain ⟨c0, c1, c2⟩ := cc T hT8
                  rw [HSD.out] at c0 c1
                  have fz : ∀ j, w5.frozen? ⟨b, j, none⟩ = false := fun j => by obtain ⟨cs, hb, _⟩ := H5.blk; exact frozen_of_block hb j
                  have f0 := fz (T * 3)
                  have f1 := fz (T * 3 + 1)
                  have f2 := fz (T * 3 + 2)
                  have f24 := fz 24
                  clear fz cc
                  have HF : ∃ m', RW (w5.setCell ⟨b, T * 3, none⟩ (.int .i64 ((tn : Int) - 1))) B b (nextS S ⟨(T : Int), 5, ad, wd, own, er⟩) m' := by
                    have a3 := H5.how hT8 HSD.out tn
                    refine ⟨m, ?_⟩
                    rw [HNX.out, hnx2]
                    simpa using a3
                  have HFH : Hid _ := HF
                  have KF : Keeps (fun q => B ≤ q) w (w5.setCell ⟨b, T * 3, none⟩ (.int .i64 ((tn : Int) - 1))) := KB5.setCell (.inr H5.Bb) _
                  clear HF
                  go_wp2_with fail
                  go_ret
                  exact ⟨by rw [HZ2.out]; rfl, fun _ => HFH.out, KF⟩
          · have e5 : (kd == 5) = false := by simpa using h5
            by_cases h3 : kd = 3
            · subst h3
              have hck : clkB 3 = false := rfl
              have HZ1 : Hid (z = if nu = false then 232 else if ow = false then 233 else 0) := by unfold Hid; rw [HZ.out, if_neg h0, if_neg (by simp [hck])]
              clear HZ hck
              go_wp2_with fail
              refine (NU2.out _ K3).mono ?_
              rintro ex w4 ⟨rfl, k4⟩
              have K4 := K3.trans k4
              have kB4 := kB3.trans k4
              clear x0 x1 x2 x3 x4 x5
              obtain ⟨x0, x1, x2, x3, x4, x5⟩ := blk6' (HB.out _ kB4)
              cases nu with
              | false =>
                have HZ2 : Hid (z = 232) := HZ1.out
                clear HZ1
                go_wp2_with fail
                go_ret
                exact ⟨by rw [HZ2.out]; rfl, fun q => by have := HZ2.out; omega, K4.mono (fun _ _ f => f.elim)⟩
              | true =>
                go_wp2_with fail
                refine (OW2.out _ K4).mono ?_
                rintro ex w5 ⟨rfl, k5⟩
                have K5 := K4.trans k5
                have kB5 := kB4.trans k5
                clear x0 x1 x2 x3 x4 x5
                obtain ⟨x0, x1, x2, x3, x4, x5⟩ := blk6' (HB.out _ kB5)
                cases ow with
                | false =>
                  have HZ2 : Hid (z = 233) := HZ1.out
                  clear HZ1
                  go_wp2_with fail
                  go_ret
                  exact ⟨by rw [HZ2.out]; rfl, fun q => by have := HZ2.out; omega, K5.mono (fun _ _ f => f.elim)⟩
                | true =>
                  have HZ2 : Hid (z = 0) := HZ1.out
                  clear HZ1
                  have H5 := HR.out _ K5
                  have KB5 : Keeps (fun q => B ≤ q) w w5 := K5.mono (fun _ _ f => f.elim)
                  have hB5 : B ≤ w5.heap.size := Nat.le_trans hBw K5.size
                  obtain ⟨c24, cc⟩ := H5.at
                  obtain ⟨c0, c1, c2⟩ := cc T hT8
                  rw [HSD.out] at c0 c1
                  have fz : ∀ j, w5.frozen? ⟨b, j, none⟩ = false := fun j => by obtain ⟨cs, hb, _⟩ := H5.blk; exact frozen_of_block hb j
                  have f0 := fz (T * 3)
                  have f1 := fz (T * 3 + 1)
                  have f2 := fz (T * 3 + 2)
                  have f24 := fz 24
                  clear fz cc
                  obtain ⟨va, vc, hva⟩ := (H5.row T hT8).form
                  rw [HSD.out] at hva
                  simp only [List.length_reverse] at hva
                  have oT := H5.row T hT8
                  rw [HSD.out] at oT
                  dsimp only at oT
                  have oTd := oT.keeps (Keeps.refl (fun _ => False) w5).drew (fun _ _ f => f)
                  obtain ⟨v', w6, r1, r2, r3⟩ := oTd.push (P := Tryz.prog) (ts := 24) (ty := 24) cl2_len cl2_one (by decide) Tryz.underlying24 info_cell rfl (by decide) (ad, wd) (cs := #[.int .u64 ad, .int .u64 wd]) rfl (by rw [List.length_reverse]; omega)
                  obtain ⟨sb, sc, hsv0⟩ := r2.form
                  have hsv : v' = .slice sb (wr.length + 1) sc := by rw [hsv0]; simp
                  clear hsv0
                  have HR1 : Hid (_ = _) := r1
                  have H5d := H5.keeps (Keeps.refl (fun _ => False) w5).drew
                  have a2 := H5d.push hT8 HSD.out (ad, wd) r3 r2
                  have a3 := a2.how hT8 (s := ⟨st, sn, (ad, wd) :: wr⟩) (by rw [sd_set H5.t8 hT8, if_pos rfl]) tn
                  have HF : ∃ m', RW ((w6.setCell ⟨b, T * 3 + 2, none⟩ v').setCell ⟨b, T * 3, none⟩ (.int .i64 ((tn : Int) - 1))) B b (nextS S ⟨(T : Int), 3, ad, wd, own, er⟩) m' := by
                    refine ⟨fun i => if i = T then v' else m i, ?_⟩
                    rw [HNX.out, hnx2]
                    simpa using a3
                  have HFH : Hid _ := HF
                  have K6 : Keeps (fun q => B ≤ q) w w6 := (KB5.trans ((Keeps.refl _ w5).drew)).trans (r3.keeps.mono (fun q _ hq => (own_block oT.own hq).2))
                  have KF : Keeps (fun q => B ≤ q) w ((w6.setCell ⟨b, T * 3 + 2, none⟩ v').setCell ⟨b, T * 3, none⟩ (.int .i64 ((tn : Int) - 1))) := (K6.setCell (.inr H5.Bb) _).setCell (.inr H5.Bb) _
                  have hbx := HB.out _ kB5
                  have hwb6 : w6.heap[b]? = w5.drew.heap[b]? := r3.keeps.block b H5d.lt (H5.nb T hT8)
                  have hwx6 : w6.heap[w.heap.size]? = w5.drew.heap[w.heap.size]? := r3.keeps.block _ (lt_of_block hbx) (fun hq => by
                    have h1 := H5.row T hT8
                    have := (own_block (h.row T hT8).own hq).1; omega)
                  have hSd : w5.drew.heap[w.heap.size]? = some (.cells #[.int .i64 (T : Int), .int .i64 3, .int .u64 ad, .int .u64 wd, .bool own, .int .i64 er] 60 (0, 0)) ∧ w5.drew.cell? ⟨b, T * 3 + 2, none⟩ = some (m T) := ⟨hbx, c2⟩
                  have kal := (Keeps.refl (fun _ => False) w5.drew).alloc (.cells #[.int .u64 ad, .int .u64 wd] 28)
                  have hSa : (w5.drew.alloc (.cells #[.int .u64 ad, .int .u64 wd] 28)).heap[w.heap.size]? = some (.cells #[.int .i64 (T : Int), .int .i64 3, .int .u64 ad, .int .u64 wd, .bool own, .int .i64 er] 60 (0, 0)) ∧ (w5.drew.alloc (.cells #[.int .u64 ad, .int .u64 wd] 28)).cell? ⟨b, T * 3 + 2, none⟩ = some (m T) := ⟨(kal.block _ (lt_of_block hSd.1) (fun f => f)).trans hSd.1, cell_more kal hSd.2⟩
                  have hS6 : w6.heap[w.heap.size]? = some (.cells #[.int .i64 (T : Int), .int .i64 3, .int .u64 ad, .int .u64 wd, .bool own, .int .i64 er] 60 (0, 0)) ∧ w6.cell? ⟨b, T * 3 + 2, none⟩ = some (m T) := ⟨hwx6.trans hSd.1, by rw [← hSd.2]; simp [World.cell?, hwb6]⟩
                  have hwb7 : w6.heap[b]? = w5.heap[b]? := hwb6
                  have c06 : w6.cell? ⟨b, T * 3, none⟩ = some (.int .i64 ((st : Int) - 1)) := by rw [← c0]; simp [World.cell?, hwb7]
                  have f06 : w6.frozen? ⟨b, T * 3, none⟩ = false := by rw [← f0]; simp [World.frozen?, hwb7]
                  have f26 : w6.frozen? ⟨b, T * 3 + 2, none⟩ = false := by rw [← f2]; simp [World.frozen?, hwb7]
                  have hcell6 := hS6.2
                  have x16 : w6.cell? ⟨w.heap.size, 1, none⟩ = some (.int .i64 3) := (blk6' hS6.1).2.1
                  clear HF a2 a3 r1 oT oTd r3 hwb6 hwx6
                  subst hsv
                  go_wp2_with fail
                  refine wp_until (S := fun X => X.heap[w.heap.size]? = some (.cells #[.int .i64 (T : Int), .int .i64 3, .int .u64 ad, .int .u64 wd, .bool own, .int .i64 er] 60 (0, 0)) ∧ X.cell? ⟨b, T * 3 + 2, none⟩ = some (m T)) 14 15 rfl hmx2 ?_
                  simp only [Array.replicate_succ, Array.replicate_zero, List.push_toArray, List.nil_append, List.cons_append]
                  refine u_take (i := 0) (v := .pointer (some ⟨b, T * 3, none⟩)) 78 rfl rfl (by kernel_rfl) (by kernel_rfl) (by kernel_rfl) (by kernel_rfl) rfl (fun w' hw' => by go_simp) hSd ?_
                  simp only [Act.put, List.setIfInBounds_toArray, List.set_cons_zero, List.set_cons_succ]
                  refine u_take (i := 1) (v := .pointer (some ⟨b, T * 3, none⟩)) 79 rfl rfl (by kernel_rfl) (by kernel_rfl) (by kernel_rfl) (by kernel_rfl) rfl (fun w' hw' => by go_simp) hSd ?_
                  simp only [Act.put, List.setIfInBounds_toArray, List.set_cons_zero, List.set_cons_succ]
                  refine u_take (i := 2) (v := .pointer (some ⟨b, T * 3, none⟩)) 80 rfl rfl (by kernel_rfl) (by kernel_rfl) (by kernel_rfl) (by kernel_rfl) rfl (fun w' hw' => by go_simp) hSd ?_
                  simp only [Act.put, List.setIfInBounds_toArray, List.set_cons_zero, List.set_cons_succ]
                  refine u_take (i := 3) (v := .pointer (some ⟨b, T * 3 + 2, none⟩)) 81 rfl rfl (by kernel_rfl) (by kernel_rfl) (by kernel_rfl) (by kernel_rfl) rfl (fun w' hw' => by go_simp) hSd ?_
                  simp only [Act.put, List.setIfInBounds_toArray, List.set_cons_zero, List.set_cons_succ]
                  refine u_take (i := 4) (v := m T) 82 rfl rfl (by kernel_rfl) (by kernel_rfl) (by kernel_rfl) (by kernel_rfl) rfl (fun w' hw' => by have q9 := hw'.2; go_simp) hSd ?_
                  simp only [Act.put, List.setIfInBounds_toArray, List.set_cons_zero, List.set_cons_succ]
                  refine u_take (i := 5) (v := .pointer (some ⟨w.heap.size, 2, none⟩)) 83 rfl rfl (by kernel_rfl) (by kernel_rfl) (by kernel_rfl) (by kernel_rfl) rfl (fun w' hw' => by go_simp) hSd ?_
                  simp only [Act.put, List.setIfInBounds_toArray, List.set_cons_zero, List.set_cons_succ]
                  refine u_take (i := 6) (v := .int .u64 ad) 84 rfl rfl (by kernel_rfl) (by kernel_rfl) (by kernel_rfl) (by kernel_rfl) rfl (fun w' hw' => by obtain ⟨y0, y1, y2, y3, y4, y5⟩ := blk6' hw'.1; go_simp) hSd ?_
                  simp only [Act.put, List.setIfInBounds_toArray, List.set_cons_zero, List.set_cons_succ]
                  refine u_take (i := 7) (v := .pointer (some ⟨w.heap.size, 3, none⟩)) 85 rfl rfl (by kernel_rfl) (by kernel_rfl) (by kernel_rfl) (by kernel_rfl) rfl (fun w' hw' => by go_simp) hSd ?_
                  simp only [Act.put, List.setIfInBounds_toArray, List.set_cons_zero, List.set_cons_succ]
                  refine u_take (i := 8) (v := .int .u64 wd) 86 rfl rfl (by kernel_rfl) (by kernel_rfl) (by kernel_rfl) (by kernel_rfl) rfl (fun w' hw' => by obtain ⟨y0, y1, y2, y3, y4, y5⟩ := blk6' hw'.1; go_simp) hSd ?_
                  simp only [Act.put, List.setIfInBounds_toArray, List.set_cons_zero, List.set_cons_succ]
                  refine u_take (i := 9) (v := .agg #[.int .u64 ad, .int .u64 wd]) 87 rfl rfl (by kernel_rfl) (by kernel_rfl) (by kernel_rfl) (by kernel_rfl) rfl (fun w' hw' => by go_simp) hSd ?_
                  simp only [Act.put, List.setIfInBounds_toArray, List.set_cons_zero, List.set_cons_succ]
                  refine u_val (i := 10) (v := .slice (some ⟨w5.drew.heap.size, 0, none⟩) 1 1) (w' := w5.drew.alloc (.cells #[.int .u64 ad, .int .u64 wd] 28)) (some 88) (by kernel_rfl) rfl rfl rfl (by go_simp) hSa ?_
                  simp only [Act.put, List.setIfInBounds_toArray, List.set_cons_zero, List.set_cons_succ]
                  refine u_val (i := 11) (v := .slice sb (wr.length + 1) sc) (w' := w6) (some 89) (by kernel_rfl) rfl rfl rfl (run_append_op rfl rfl rfl HR1.out) hS6 ?_
                  simp only [Act.put, List.setIfInBounds_toArray, List.set_cons_zero, List.set_cons_succ]
                  refine u_val (i := 12) (v := .pointer (some ⟨b, T * 3, none⟩)) (w' := w6) (some 90) (by kernel_rfl) rfl rfl rfl (by go_simp) hS6 ?_
                  simp only [Act.put, List.setIfInBounds_toArray, List.set_cons_zero, List.set_cons_succ]
                  refine u_val (i := 13) (v := .pointer (some ⟨b, T * 3 + 2, none⟩)) (w' := w6) (some 91) (by kernel_rfl) rfl rfl rfl (by go_simp) hS6 ?_
                  simp only [Act.put, List.setIfInBounds_toArray, List.set_cons_zero, List.set_cons_succ]
                  refine u_last (w' := w6.setCell ⟨b, T * 3 + 2, none⟩ (.slice sb (wr.length + 1) sc)) (by kernel_rfl) rfl rfl rfl (by go_simp) (by kernel_rfl) ?_
                  go_wp2_with fail
                  go_ret
                  exact ⟨by rw [HZ2.out]; rfl, fun _ => HFH.out, KF⟩
            · have e3 : (kd == 3) = false := by simpa using h3
              by_cases h6 : kd = 6
              · subst h6
                by_cases h3' : st = 3
                · subst h3'
                  have hck : clkB 6 = false := rfl
                  have HZ1 : Hid (z = if nu = false then 232 else if ow = false then 233 else 0) := by unfold Hid; rw [HZ.out, if_neg h0, if_neg (by simp [hck])]
                  clear HZ hck
                  go_wp2_with fail
                  refine (NU2.out _ K3).mono ?_
                  rintro ex w4 ⟨rfl, k4⟩
                  have K4 := K3.trans k4
                  have kB4 := kB3.trans k4
                  clear x0 x1 x2 x3 x4 x5
                  obtain ⟨x0, x1, x2, x3, x4, x5⟩ := blk6' (HB.out _ kB4)
                  cases nu with
                  | false =>
                    have HZ2 : Hid (z = 232) := HZ1.out
                    clear HZ1
                    go_wp2_with fail
                    go_ret
                    exact ⟨by rw [HZ2.out]; rfl, fun q => by have := HZ2.out; omega, K4.mono (fun _ _ f => f.elim)⟩
                  | true =>
                    go_wp2_with fail
                    refine (OW2.out _ K4).mono ?_
                    rintro ex w5 ⟨rfl, k5⟩
                    have K5 := K4.trans k5
                    have kB5 := kB4.trans k5
                    clear x0 x1 x2 x3 x4 x5
                    obtain ⟨x0, x1, x2, x3, x4, x5⟩ := blk6' (HB.out _ kB5)
                    cases ow with
                    | false =>
                      have HZ2 : Hid (z = 233) := HZ1.out
                      clear HZ1
                      go_wp2_with fail
                      go_ret
                      exact ⟨by rw [HZ2.out]; rfl, fun q => by have := HZ2.out; omega, K5.mono (fun _ _ f => f.elim)⟩
                    | true =>
                      have HZ2 : Hid (z = 0) := HZ1.out
                      clear HZ1
                      have H5 := HR.out _ K5
                      have KB5 : Keeps (fun q => B ≤ q) w w5 := K5.mono (fun _ _ f => f.elim)
                      have hB5 : B ≤ w5.heap.size := Nat.le_trans hBw K5.size
                      obtain ⟨c24, cc⟩ := H5.at
                      obtain ⟨c0, c1, c2⟩ := cc T hT8
                      rw [HSD.out] at c0 c1
                      have fz : ∀ j, w5.frozen? ⟨b, j, none⟩ = false := fun j => by obtain ⟨cs, hb, _⟩ := H5.blk; exact frozen_of_block hb j
                      have f0 := fz (T * 3)
                      have f1 := fz (T * 3 + 1)
                      have f2 := fz (T * 3 + 2)
                      have f24 := fz 24
                      clear fz cc
                      have hwn := HNE.out (by first | rfl | trivial) (by first | rfl | trivial) (by first | rfl | trivial)
                      have HF : ∃ m', RW ((w5.setCell ⟨b, 24, none⟩ (.int .u64 wd)).setCell ⟨b, T * 3, none⟩ (.int .i64 ((tn : Int) - 1))) B b (nextS S ⟨(T : Int), 6, ad, wd, own, er⟩) m' := by
                        have a2 := H5.num wd
                        have a3 := a2.how hT8 (s := ⟨3, sn, wr⟩) HSD.out tn
                        refine ⟨m, ?_⟩
                        rw [HNX.out, hnx2]
                        rw [hwn] at a3 ⊢
                        simpa using a3
                      have HFH : Hid _ := HF
                      have KF : Keeps (fun q => B ≤ q) w ((w5.setCell ⟨b, 24, none⟩ (.int .u64 wd)).setCell ⟨b, T * 3, none⟩ (.int .i64 ((tn : Int) - 1))) := (KB5.setCell (.inr H5.Bb) _).setCell (.inr H5.Bb) _
                      clear hwn
                      clear HF
                      go_wp2_with fail
                      go_ret
                      exact ⟨by rw [HZ2.out]; rfl, fun _ => HFH.out, KF⟩
                · have e33 : (((st : Int) - 1) == 2) = false := by simp; omega
                  have e34 : ¬ ((st : Int) - 1 = 2) := by omega
                  have hck : clkB 6 = false := rfl
                  have HZ1 : Hid (z = if nu = false then 232 else if ow = false then 233 else 0) := by unfold Hid; rw [HZ.out, if_neg h0, if_neg (by simp [hck])]
                  clear HZ hck
                  go_wp2_with fail
                  refine (NU2.out _ K3).mono ?_
                  rintro ex w4 ⟨rfl, k4⟩
                  have K4 := K3.trans k4
                  have kB4 := kB3.trans k4
                  clear x0 x1 x2 x3 x4 x5
                  obtain ⟨x0, x1, x2, x3, x4, x5⟩ := blk6' (HB.out _ kB4)
                  cases nu with
                  | false =>
                    have HZ2 : Hid (z = 232) := HZ1.out
                    clear HZ1
                    go_wp2_with fail
                    go_ret
                    exact ⟨by rw [HZ2.out]; rfl, fun q => by have := HZ2.out; omega, K4.mono (fun _ _ f => f.elim)⟩
                  | true =>
                    go_wp2_with fail
                    refine (OW2.out _ K4).mono ?_
                    rintro ex w5 ⟨rfl, k5⟩
                    have K5 := K4.trans k5
                    have kB5 := kB4.trans k5
                    clear x0 x1 x2 x3 x4 x5
                    obtain ⟨x0, x1, x2, x3, x4, x5⟩ := blk6' (HB.out _ kB5)
                    cases ow with
                    | false =>
                      have HZ2 : Hid (z = 233) := HZ1.out
                      clear HZ1
                      go_wp2_with fail
                      go_ret
                      exact ⟨by rw [HZ2.out]; rfl, fun q => by have := HZ2.out; omega, K5.mono (fun _ _ f => f.elim)⟩
                    | true =>
                      have HZ2 : Hid (z = 0) := HZ1.out
                      clear HZ1
                      have H5 := HR.out _ K5
                      have KB5 : Keeps (fun q => B ≤ q) w w5 := K5.mono (fun _ _ f => f.elim)
                      have hB5 : B ≤ w5.heap.size := Nat.le_trans hBw K5.size
                      obtain ⟨c24, cc⟩ := H5.at
                      obtain ⟨c0, c1, c2⟩ := cc T hT8
                      rw [HSD.out] at c0 c1
                      have fz : ∀ j, w5.frozen? ⟨b, j, none⟩ = false := fun j => by obtain ⟨cs, hb, _⟩ := H5.blk; exact frozen_of_block hb j
                      have f0 := fz (T * 3)
                      have f1 := fz (T * 3 + 1)
                      have f2 := fz (T * 3 + 2)
                      have f24 := fz 24
                      clear fz cc
                      have HF : ∃ m', RW (w5.setCell ⟨b, T * 3, none⟩ (.int .i64 ((tn : Int) - 1))) B b (nextS S ⟨(T : Int), 6, ad, wd, own, er⟩) m' := by
                        have a3 := H5.how hT8 HSD.out tn
                        refine ⟨m, ?_⟩
                        rw [HNX.out, hnx2]
                        simpa [h3'] using a3
                      have HFH : Hid _ := HF
                      have KF : Keeps (fun q => B ≤ q) w (w5.setCell ⟨b, T * 3, none⟩ (.int .i64 ((tn : Int) - 1))) := KB5.setCell (.inr H5.Bb) _
                      clear HF
                      go_wp2_with fail
                      go_ret
                      exact ⟨by rw [HZ2.out]; rfl, fun _ => HFH.out, KF⟩
              · have e6 : (kd == 6) = false := by simpa using h6
                have hck : clkB kd = false := by simp [clkB, h1, h4, h5]
                have HZ1 : Hid (z = if nu = false then 232 else if ow = false then 233 else 0) := by unfold Hid; rw [HZ.out, if_neg h0, if_neg (by simp [hck])]
                clear HZ hck
                go_wp2_with fail
                refine (NU2.out _ K3).mono ?_
                rintro ex w4 ⟨rfl, k4⟩
                have K4 := K3.trans k4
                have kB4 := kB3.trans k4
                clear x0 x1 x2 x3 x4 x5
                obtain ⟨x0, x1, x2, x3, x4, x5⟩ := blk6' (HB.out _ kB4)
                cases nu with
                | false =>
                  have HZ2 : Hid (z = 232) := HZ1.out
                  clear HZ1
                  go_wp2_with fail
                  go_ret
                  exact ⟨by rw [HZ2.out]; rfl, fun q => by have := HZ2.out; omega, K4.mono (fun _ _ f => f.elim)⟩
                | true =>
                  go_wp2_with fail
                  refine (OW2.out _ K4).mono ?_
                  rintro ex w5 ⟨rfl, k5⟩
                  have K5 := K4.trans k5
                  have kB5 := kB4.trans k5
                  clear x0 x1 x2 x3 x4 x5
                  obtain ⟨x0, x1, x2, x3, x4, x5⟩ := blk6' (HB.out _ kB5)
                  cases ow with
                  | false =>
                    have HZ2 : Hid (z = 233) := HZ1.out
                    clear HZ1
                    go_wp2_with fail
                    go_ret
                    exact ⟨by rw [HZ2.out]; rfl, fun q => by have := HZ2.out; omega, K5.mono (fun _ _ f => f.elim)⟩
                  | true =>
                    have HZ2 : Hid (z = 0) := HZ1.out
                    clear HZ1
                    have H5 := HR.out _ K5
                    have KB5 : Keeps (fun q => B ≤ q) w w5 := K5.mono (fun _ _ f => f.elim)
                    have hB5 : B ≤ w5.heap.size := Nat.le_trans hBw K5.size
                    obtain ⟨c24, cc⟩ := H5.at
                    obtain ⟨c0, c1, c2⟩ := cc T hT8
                    rw [HSD.out] at c0 c1
                    have fz : ∀ j, w5.frozen? ⟨b, j, none⟩ = false := fun j => by obtain ⟨cs, hb, _⟩ := H5.blk; exact frozen_of_block hb j
                    have f0 := fz (T * 3)
                    have f1 := fz (T * 3 + 1)
                    have f2 := fz (T * 3 + 2)
                    have f24 := fz 24
                    clear fz cc
                    have HF : ∃ m', RW (w5.setCell ⟨b, T * 3, none⟩ (.int .i64 ((tn : Int) - 1))) B b (nextS S ⟨(T : Int), kd, ad, wd, own, er⟩) m' := by
                      have a3 := H5.how hT8 HSD.out tn
                      refine ⟨m, ?_⟩
                      rw [HNX.out, hnx2]
                      simpa [h1, h3, h4, h6] using a3
                    have HFH : Hid _ := HF
                    have KF : Keeps (fun q => B ≤ q) w (w5.setCell ⟨b, T * 3, none⟩ (.int .i64 ((tn : Int) - 1))) := KB5.setCell (.inr H5.Bb) _
                    clear HF
                    go_wp2_with fail
                    go_ret
                    exact ⟨by rw [HZ2.out]; rfl, fun _ => HFH.out, KF⟩
end Go.Proofs.YthmiainhaebjiaaGreatDoor

/- A walk of the document's Check (package parleyref13). No statement of the seat is proved here. -/
namespace Go.Proofs.YthmiainhaebjiaaGreatDoor
open Go.RowKit Go.Shelf

def rw0 : Array Value := #[.int .i64 0, .int .u64 0, .slice none 0 0, .int .i64 0, .int .u64 0, .slice none 0 0, .int .i64 0, .int .u64 0, .slice none 0 0, .int .i64 0, .int .u64 0, .slice none 0 0, .int .i64 0, .int .u64 0, .slice none 0 0, .int .i64 0, .int .u64 0, .slice none 0 0, .int .i64 0, .int .u64 0, .slice none 0 0, .int .i64 0, .int .u64 0, .slice none 0 0, .int .u64 0]
theorem st0_sdd (i : Nat) : st0.sd i = sd0 := by
  simp only [St.sd, st0, List.getElem?_replicate]
  split <;> rfl
theorem rw_start {w : World} {B b : Nat} (hb : w.heap[b]? = some (.cells rw0 147 (0, 0))) (hB : B ≤ b) : RW w B b st0 (fun _ => .slice none 0 0) := by
  refine ⟨⟨rw0, hb, rfl, rfl, fun i hi => ?_⟩, fun i _ => ?_, fun i j g _ _ _ hg => ?_, fun i _ hg => ?_, hB, rfl⟩
  · rw [st0_sdd]
    match i, hi with
    | 0, _ => exact ⟨rfl, rfl, rfl⟩
    | 1, _ => exact ⟨rfl, rfl, rfl⟩
    | 2, _ => exact ⟨rfl, rfl, rfl⟩
    | 3, _ => exact ⟨rfl, rfl, rfl⟩
    | 4, _ => exact ⟨rfl, rfl, rfl⟩
    | 5, _ => exact ⟨rfl, rfl, rfl⟩
    | 6, _ => exact ⟨rfl, rfl, rfl⟩
    | 7, _ => exact ⟨rfl, rfl, rfl⟩
  · rw [st0_sdd]
    exact OwnR.nilB _ _ _ _ _ (by have := lt_of_block hb; omega)
  · cases hg
  · cases hg
set_option maxRecDepth 100000 in
set_option maxHeartbeats 8000000 in
theorem rcheck_any (v : Value) (L : List Ev) (w : World) (hv : EvsAt w v L) :
    Calls Tryz.prog 44 #[v] w fun ex w' => ex = .returned (.agg (odV (checkL L).1 (checkL L).2)) ∧ Keeps (fun _ => False) w w' := by
  have hbig := hv.big
  have hwf := hv.wf
  have HV : Hid (∀ X, Keeps (fun _ => False) w X → EvsAt X v L) := fun X k => hv.keeps k
  obtain ⟨a, cap, rfl, hcap⟩ := hv.els.shape
  clear hv
  have k0 := (Keeps.refl (fun _ => False) w).alloc (.cells (odV 0 0) 31)
  have b0 : (w.alloc (.cells (odV 0 0) 31)).heap[w.heap.size]? = some (.cells (odV 0 0) 31 (0, 0)) := (MapKept.heap_alloc w _).1
  have k1 := (Keeps.refl (fun _ => False) (w.alloc (.cells (odV 0 0) 31))).alloc (.cells rw0 147)
  have b1 := (MapKept.heap_alloc (w.alloc (.cells (odV 0 0) 31)) (.cells rw0 147)).1
  rw [show (w.alloc (.cells (odV 0 0) 31)).heap.size = w.heap.size + 1 by simp] at b1
  have R1 := rw_start (B := w.heap.size + 1) b1 (Nat.le_refl _)
  have K1 := k0.trans k1
  have B1 := (k1.block _ (lt_of_block b0) (fun f => f)).trans b0
  clear k0 b0 k1 b1
  unfold odV rw0 at R1 K1 B1
  go_enter Tryz.func44, Tryz.ntmps44
  go_wp2_with fail
  go_loopw [4] (fun u wr => ∃ (k : Nat), u = .int .i64 k ∧ k ≤ L.length ∧ Hid (∃ S m, RW wr (w.heap.size + 1) (w.heap.size + 1) S m ∧ SOk S k ∧ checkL L = chk S (L.drop k) k) ∧ Keeps (fun _ => False) w wr ∧ wr.heap[w.heap.size]? = some (.cells (odV 0 0) 31 (0, 0))) (fun u _ => L.length - (intOf u).toNat)
  case atStart => exact ⟨0, rfl, Nat.zero_le _, ⟨st0, _, R1, st0_ok, rfl⟩, K1, B1⟩
  case round =>
    clear R1 K1 B1
    obtain ⟨k, rfl, hk, hh, kr, br⟩ := hrel
    by_cases hlt : k < L.length
    · have hki : (k : Int) < L.length := by omega
      have hk0 : (0 : Int) ≤ k := by omega
      obtain ⟨S, m, R, hok, hc⟩ := hh.out
      obtain ⟨g, off, rfl, x0, x1, x2, x3, x4, x5⟩ := (HV.out wr kr).at k hlt
      have hew := hwf _ (List.getElem_mem hlt)
      have hdrop : L.drop k = L[k] :: L.drop (k + 1) := List.drop_eq_getElem_cons hlt
      rw [hdrop, chk] at hc
      have PU := rput_any (w.heap.size + 1) (w.heap.size + 1) S m k (by omega) hok (L[k]) hew wr R (by have := R.lt; omega)
      have HC : Hid (checkL L = _) := hc
      have HOK : Hid (errE S (L[k]) = 0 → SOk (nextS S (L[k])) (k + 1)) := fun h => next_ok hok R.t8 hew h
      clear hc R hok hh hdrop hew hwf
      generalize hev : L[k]'hlt = e at *
      obtain ⟨th, kd, ad, wd, own, er⟩ := e
      dsimp only at x0 x1 x2 x3 x4 x5
      clear hev
      generalize hz : errE S ⟨th, kd, ad, wd, own, er⟩ = z at *
      have PU2 : Calls Tryz.prog 68 #[.pointer (some ⟨w.heap.size + 1, 0, none⟩), .agg #[.int .i64 th, .int .i64 kd, .int .u64 ad, .int .u64 wd, .bool own, .int .i64 er]] wr _ := PU
      clear PU
      by_cases hz0 : z = 0
      · subst hz0
        go_wp2_with fail
        refine PU2.mono ?_
        rintro ex w3 ⟨rfl, hR, k3⟩
        have K3 := kr.young k3 (fun q hq => by omega)
        have B3 := (k3.block _ (lt_of_block br) (fun f => by omega)).trans br
        have FN : Hid (∃ S' m', RW w3 (w.heap.size + 1) (w.heap.size + 1) S' m' ∧ SOk S' (k + 1) ∧ checkL L = chk S' (L.drop (k + 1)) (k + 1)) := by
          obtain ⟨m', hm'⟩ := hR (by first | rfl | trivial)
          exact ⟨_, m', hm', HOK.out (by first | rfl | trivial), by simpa using HC.out⟩
        clear PU2 k3 hR x0 x1 x2 x3 x4 x5 kr br HC HOK
        go_wp2_with fail
        go_roundw
        · exact ⟨k + 1, by simp, by omega, FN, K3, B3⟩
        · simp [intOf]; omega
      · have hcz : checkL L = ((k : Int), z) := by have := HC.out; rw [if_neg hz0] at this; exact this
        have HZ : Hid (checkL L = ((k : Int), z)) := hcz
        have hzb : (z == 0) = false := by simpa using hz0
        clear hcz HC hz HOK
        go_wp2_with fail
        refine PU2.mono ?_
        rintro ex w3 ⟨rfl, hR, k3⟩
        have K3 := kr.young k3 (fun q hq => by omega)
        have B3 := (k3.block _ (lt_of_block br) (fun f => by omega)).trans br
        clear PU2 k3 hR x0 x1 x2 x3 x4 x5 kr br
        go_wp2_with (refine wpList_store_row rfl 31 _ _ rfl w.heap.size (odV k z) rfl rfl 31 _ B3 (od_size _ _) rfl (od_all _ _) ?_)
        refine bodyPost_ret (odd_ret1 rfl _ _ w.heap.size (odV k z) (setRow_heap _ _ _ _ _ _ B3) rfl rfl) rfl ?_
        exact ⟨by rw [HZ.out], K3.row (Nat.le_refl _) _⟩
    · obtain rfl : k = L.length := by omega
      have hcz : checkL L = (-1, 0) := by
        obtain ⟨S, m, R, hok, hc⟩ := hh.out
        rw [hc, List.drop_length]; rfl
      have HZ : Hid (checkL L = (-1, 0)) := hcz
      clear hcz hh
      go_wp2_with (refine wpList_store_row rfl 31 _ _ rfl w.heap.size (odV (-1) 0) rfl rfl 31 _ br (od_size _ _) rfl (od_all _ _) ?_)
      refine bodyPost_ret (odd_ret1 rfl _ _ w.heap.size (odV (-1) 0) (setRow_heap _ _ _ _ _ _ br) rfl rfl) rfl ?_
      exact ⟨by rw [HZ.out], kr.row (Nat.le_refl _) _⟩
end Go.Proofs.YthmiainhaebjiaaGreatDoor
