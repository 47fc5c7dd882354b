/-
  The walk of the law's 'goes': All gone over twice, the first time left behind some rounds. No statement of the seat is proved here.
-/
import Derived.Test.YtmffkcbdgpaieaaRound
import Derived.Test.YtmffkcbdgpaieaaRefB
import Derived.Test.YtmffkcbdgpaieaaNil
namespace Go.Proofs.Ytmffkcbdgpaieaa
open Go.RowKit Go.Shelf
attribute [local go_sem] Oper.semAt_some

/-- A row of the document's, or none: its words. -/
def RefOr (W : World) (q : Option Addr) (ws : List Int) : Prop := (q = none ∧ ws = []) ∨ ∃ b c cap rest n, q = some ⟨b, 0, none⟩ ∧ RefAt W b c cap rest ws n

theorem RowOr.below {W W' : World} {p : Option Addr} {ws : List Int} (hr : RowOr W p ws) (hW : Below W.heap.size W W') : RowOr W' p ws := by
  rcases hr with ⟨h | ⟨b, rfl, h⟩, rfl⟩ | ⟨b, c, m, rfl, h⟩
  · exact .inl ⟨.inl h, rfl⟩
  · exact .inl ⟨.inr ⟨b, rfl, (hW.cell (p := ⟨b, 0, none⟩) (World.block_lt_of_cell? _ _ h)).trans h⟩, rfl⟩
  · exact .inr ⟨b, c, m, rfl, h.below hW⟩
theorem RefOr.below {W W' : World} {q : Option Addr} {ws : List Int} (hr : RefOr W q ws) (hW : Below W.heap.size W W') : RefOr W' q ws := by
  rcases hr with h | ⟨b, c, cap, rest, m, rfl, h⟩
  · exact .inl h
  · exact .inr ⟨b, c, cap, rest, m, rfl, h.below hW⟩
theorem RefOr.drewN {W : World} {q : Option Addr} {ws : List Int} (hr : RefOr W q ws) (m : Nat) : RefOr (W.drewN m) q ws := by
  rcases hr with h | ⟨b, c, cap, rest, n, rfl, h⟩
  · exact .inl h
  · exact .inr ⟨b, c, cap, rest, n, rfl, h.drewN m⟩
theorem rlen_or {W : World} {q : Option Addr} {ws : List Int} (hr : RefOr W q ws) : Calls Try.prog 23 #[.pointer q] W fun e w' => e = .returned (.int .i64 ws.length) ∧ w' = W := by
  rcases hr with ⟨rfl, rfl⟩ | ⟨b, c, cap, rest, m, rfl, h⟩
  · exact rlen_nil W
  · exact rlen_at b _ _ _ W h.cell0

/-- The six variables of 'goes' in their boxes: turn (k) and n (m) the two last. -/
structure Six (w : World) (p q : Option Addr) (leave : Int) (k : Int) (bt bn : Nat) (m : Int) (W : World) : Prop where
  r : W.heap[w.heap.size]? = some (.cells #[.pointer q] 30 (0, 0))
  leave : W.heap[w.heap.size + 1]? = some (.cells #[.int .i64 leave] 3 (0, 0))
  res : W.heap[w.heap.size + 1 + 1]? = some (.cells #[.bool false] 4 (0, 0))
  t : W.heap[w.heap.size + 1 + 1 + 1]? = some (.cells #[.pointer p] 25 (0, 0))
  turn : W.heap[bt]? = some (.cells #[.int .i64 k] 3 (0, 0))
  n : W.heap[bn]? = some (.cells #[.int .i64 m] 3 (0, 0))
theorem Six.own {w : World} {p q : Option Addr} {leave k : Int} {bt bn : Nat} {m : Int} {A B : World} {row : Option Nat} (h : Six w p q leave k bt bn m A) (hg : A.grownBy B row) (hr : ∀ r, row = some r → ∃ o : Obj, A.heap[r]? = some o ∧ o.isCells = false) : Six w p q leave k bt bn m B :=
  ⟨block_kept h.r hg hr, block_kept h.leave hg hr, block_kept h.res hg hr, block_kept h.t hg hr, block_kept h.turn hg hr, block_kept h.n hg hr⟩

theorem Six.drewN {w : World} {p q : Option Addr} {leave k : Int} {bt bn : Nat} {m : Int} {A : World} (h : Six w p q leave k bt bn m A) (j : Nat) : Six w p q leave k bt bn m (A.drewN j) := ⟨h.r, h.leave, h.res, h.t, h.turn, h.n⟩

/-- Between two rounds. -/
def GoesI (w : World) (p q : Option Addr) (leave : Int) (ws : List Int) (k : Int) (bt bn : Nat) (pre : List (Nat × Int)) (W : World) : Prop :=
  (Six w p q leave k bt bn pre.length W ∧ pre = rounds ws pre.length ∧ (k = 0 → 1 ≤ leave → (pre.length : Int) < leave)) ∧ Below w.heap.size w W
/-- A round has left. -/
def GoesX (w : World) (p q : Option Addr) (leave : Int) (ws : List Int) (k : Int) (bt bn : Nat) (c : Code) (pre : List (Nat × Int)) (W : World) : Prop :=
  ((c = .exit 2 ∧ k = 0 ∧ (pre.length : Int) = leave ∧ Six w p q leave k bt bn pre.length W) ∨ (∀ j, pre ≠ rounds ws j)) ∧ Below w.heap.size w W

theorem goesI_own (w : World) (p q : Option Addr) (leave : Int) (ws : List Int) (k : Int) (bt bn : Nat) {B : Nat} (hB : w.heap.size ≤ B) : OwnFrom B (GoesI w p q leave ws k bt bn) :=
  OwnFrom.and (Own.from (fun _ _ _ _ hs hg hr => ⟨hs.1.own hg hr, hs.2⟩) _) (ownFrom_below (Nat.le_refl _) hB)
theorem goesX_own (w : World) (p q : Option Addr) (leave : Int) (ws : List Int) (k : Int) (bt bn : Nat) {B : Nat} (hB : w.heap.size ≤ B) (c : Code) : OwnFrom B (GoesX w p q leave ws k bt bn c) :=
  OwnFrom.and (Own.from (fun _ _ _ _ hs hg hr => by
    rcases hs with ⟨h1, h2, h3, h4⟩ | h
    · exact .inl ⟨h1, h2, h3, h4.own hg hr⟩
    · exact .inr h) _) (ownFrom_below (Nat.le_refl _) hB)

theorem goes_step {w W : World} {p q : Option Addr} {leave k : Int} {bt bn : Nat} {m : Int} (hS : Six w p q leave k bt bn m W) (hB : Below w.heap.size w W) (h1 : w.heap.size + 4 ≤ bn) (h2 : bt ≠ bn) {B : Nat} (hbn : bn < B) (nq : Nat) (v : Int) :
    KeepsFrom B W ((W.drewN nq).setCell ⟨bn, 0, none⟩ (.int .i64 v)) ∧ Above B W ((W.drewN nq).setCell ⟨bn, 0, none⟩ (.int .i64 v)) ∧ Six w p q leave k bt bn v ((W.drewN nq).setCell ⟨bn, 0, none⟩ (.int .i64 v)) ∧ Below w.heap.size w ((W.drewN nq).setCell ⟨bn, 0, none⟩ (.int .i64 v)) := by
  have ho : ∀ k, k ≠ bn → ((W.drewN nq).setCell ⟨bn, 0, none⟩ (.int .i64 v)).heap[k]? = W.heap[k]? := fun k hk => Below.heap_setCell (W.drewN nq) ⟨bn, 0, none⟩ _ k hk
  refine ⟨⟨by simp [World.drewN], fun j o hj hk _ => (ho j (by omega)).trans hk⟩, ⟨by simp [World.drewN], fun j _ _ _ hj hk => (ho j (by omega)).trans hk⟩, ⟨(ho _ (by omega)).trans hS.r, (ho _ (by omega)).trans hS.leave, (ho _ (by omega)).trans hS.res, (ho _ (by omega)).trans hS.t, (ho _ h2).trans hS.turn, block_set (w := W.drewN nq) hS.n 0 _⟩, ?_⟩
  exact Below.setCell (w := W.drewN nq) ⟨hB.os, hB.tape, hB.output, hB.size, hB.block⟩ (p := ⟨bn, 0, none⟩) (by simp; omega) _
theorem goes_fail {w W : World} {r : Nat} (hB : Below w.heap.size w W) (h1 : w.heap.size ≤ r) {B : Nat} (hr : r < B) (nq : Nat) (v : Value) : KeepsFrom B W ((W.drewN nq).setCell ⟨r, 0, none⟩ v) ∧ Below w.heap.size w ((W.drewN nq).setCell ⟨r, 0, none⟩ v) :=
  ⟨⟨by simp [World.drewN], fun j o hj hk _ => (Below.heap_setCell (W.drewN nq) ⟨r, 0, none⟩ _ j (by simp; omega)).trans hk⟩, Below.setCell (w := W.drewN nq) ⟨hB.os, hB.tape, hB.output, hB.size, hB.block⟩ (p := ⟨r, 0, none⟩) h1 _⟩
theorem rounds_last {ws : List Int} {pre : List (Nat × Int)} {x : Nat × Int} {j : Nat} (h : pre ++ [x] = rounds ws j) : x = (pre.length, ws[pre.length]?.getD 0) := by
  have hl := congrArg List.length h
  rw [List.length_append, rounds_length] at hl
  simp at hl
  subst hl
  rw [rounds_succ] at h
  exact (List.append_inj_right' h rfl |> List.cons.inj).1
theorem rounds_snoc {ws : List Int} {pre : List (Nat × Int)} {m : Nat} {v : Int} (h : pre = rounds ws pre.length) (hm : pre.length = m) (hv : ws[m]?.getD 0 = v) : pre ++ [(m, v)] = rounds ws (pre ++ [(m, v)]).length := by
  rw [List.length_append]
  show _ = rounds ws (pre.length + 1)
  rw [rounds_succ, ← h, hm, hv]

set_option maxRecDepth 100000 in
set_option maxHeartbeats 4000000 in
theorem goes_a (p q : Option Addr) (ws : List Int) (leave : Int) (w : World) (hp : RowOr w p ws) (hq : RefOr w q ws) (hl : leave < 1) :
    Calls Try.prog 26 #[.pointer p, .pointer q, .int .i64 leave] w fun e w' => e = .returned (.bool true) ∧ Below w.heap.size w w' := by
  have hnf := func_not_nil
  refine (callsIn_wide (n := 3)).1 ?_
  refine callsIn_of_wp_marks Try.func26 rfl trivial ?_ rfl
  simp only [Try.ntmps26, List.size_toArray, List.length_cons, List.length_nil, Nat.reduceAdd, Nat.reduceSub, Array.replicate_succ, Array.replicate_zero, List.push_toArray, List.append_toArray, List.nil_append, List.cons_append]
  gi_wp2_with (refine ⟨trivial, ?_⟩; gi_at_call 22; refine (callsIn_wide.2 (all_any p _)).mono ?_; rintro e w' ⟨rfl, rfl⟩)
  refine wpIn_loop_rounds 3 ?_
  rw [roundsIn_succ]
  gi_wp2
  have e0 := alloc_old (alloc_old (alloc_old (alloc_old (alloc_old (alloc_block w (.cells #[.pointer q] 30)) (.cells #[.int .i64 leave] 3)) (.cells #[.bool false] 4)) (.cells #[.pointer p] 25)) (.cells #[.int .i64 0] 3)) (.cells #[.int .i64 0] 3)
  have e1 := alloc_old (alloc_old (alloc_old (alloc_old (alloc_block (w.alloc (.cells #[.pointer q] 30)) (.cells #[.int .i64 leave] 3)) (.cells #[.bool false] 4)) (.cells #[.pointer p] 25)) (.cells #[.int .i64 0] 3)) (.cells #[.int .i64 0] 3)
  have e2 := alloc_old (alloc_old (alloc_old (alloc_block ((w.alloc (.cells #[.pointer q] 30)).alloc (.cells #[.int .i64 leave] 3)) (.cells #[.bool false] 4)) (.cells #[.pointer p] 25)) (.cells #[.int .i64 0] 3)) (.cells #[.int .i64 0] 3)
  have e3 := alloc_old (alloc_old (alloc_block (((w.alloc (.cells #[.pointer q] 30)).alloc (.cells #[.int .i64 leave] 3)).alloc (.cells #[.bool false] 4)) (.cells #[.pointer p] 25)) (.cells #[.int .i64 0] 3)) (.cells #[.int .i64 0] 3)
  have e4 := alloc_old (alloc_block ((((w.alloc (.cells #[.pointer q] 30)).alloc (.cells #[.int .i64 leave] 3)).alloc (.cells #[.bool false] 4)).alloc (.cells #[.pointer p] 25)) (.cells #[.int .i64 0] 3)) (.cells #[.int .i64 0] 3)
  have e5 := alloc_block (((((w.alloc (.cells #[.pointer q] 30)).alloc (.cells #[.int .i64 leave] 3)).alloc (.cells #[.bool false] 4)).alloc (.cells #[.pointer p] 25)).alloc (.cells #[.int .i64 0] 3)) (.cells #[.int .i64 0] 3)
  have hz2 : ((((((w.alloc (.cells #[.pointer q] 30)).alloc (.cells #[.int .i64 leave] 3)).alloc (.cells #[.bool false] 4)).alloc (.cells #[.pointer p] 25)).alloc (.cells #[.int .i64 0] 3)).alloc (.cells #[.int .i64 0] 3)).heap.size = w.heap.size + 6 := by simp
  have hb2 : Below w.heap.size w ((((((w.alloc (.cells #[.pointer q] 30)).alloc (.cells #[.int .i64 leave] 3)).alloc (.cells #[.bool false] 4)).alloc (.cells #[.pointer p] 25)).alloc (.cells #[.int .i64 0] 3)).alloc (.cells #[.int .i64 0] 3)) :=
    ((((((Below.refl _ w).alloc (Nat.le_refl _) _).alloc (by simp) _).alloc (by simp; omega) _).alloc (by simp; omega) _).alloc (by simp; omega) _).alloc (by simp; omega) _
  simp only [World.size_alloc] at e1 e2 e3 e4 e5
  generalize (((((w.alloc (.cells #[.pointer q] 30)).alloc (.cells #[.int .i64 leave] 3)).alloc (.cells #[.bool false] 4)).alloc (.cells #[.pointer p] 25)).alloc (.cells #[.int .i64 0] 3)).alloc (.cells #[.int .i64 0] 3) = W2 at e0 e1 e2 e3 e4 e5 hz2 hb2 ⊢
  have hp2 := hp.below hb2
  refine' wpIn_rangeFunc_ownG rfl (by omega) (gf := 52) (lb := #[.pointer (some ⟨w.heap.size + 1 + 1 + 1, 0, none⟩)]) rfl trivial (enters_of Try.func52 (by kernel_rfl) rfl)
    (all_stops (3 - 1) (by omega) (w.heap.size + 1 + 1 + 1) W2.heap.size p ws W2 (Nat.le_refl _) (cell_of_block e3 0) hp2)
    (fun h k => h.trans k) (fun W l o o' _ hl ho _ => Above.putObj W l o o' hl ho) (Below.refl _ _) (fun _ => rfl)
    (GoesI w p q leave ws 0 (w.heap.size + 1 + 1 + 1 + 1) (w.heap.size + 1 + 1 + 1 + 1 + 1))
    (GoesX w p q leave ws 0 (w.heap.size + 1 + 1 + 1 + 1) (w.heap.size + 1 + 1 + 1 + 1 + 1))
    (goesI_own _ _ _ _ _ _ _ _ (by omega)) (goesX_own _ _ _ _ _ _ _ _ (by omega))
    ⟨⟨⟨e0, e1, e2, e3, e4, e5⟩, rfl, fun _ h1 => by simp; omega⟩, hb2⟩ _ ?assign ?body ?done ?stop
  case assign =>
    intro l x W K hK
    gi_wp2
    exact hK
  case body =>
    rintro l pre ⟨i, v⟩ W ⟨⟨hS, hpre, hlv⟩, hB⟩ hlen
    dsimp only
    rcases hq with ⟨_, hw0⟩ | ⟨br, cr, cap, rest, nr, rfl, hq'⟩
    · rw [hw0] at hlen
      simp at hlen
    have hR := hq'.below hB
    obtain ⟨m, hm⟩ : ∃ m, pre.length = m := ⟨_, rfl⟩
    rw [hm] at hS hlen hlv
    have x0 : W.cell? ⟨_, 0, none⟩ = some _ := cell_of_block hS.r 0
    have x1 : W.cell? ⟨_, 0, none⟩ = some _ := cell_of_block hS.leave 0
    have x2 : W.cell? ⟨_, 0, none⟩ = some _ := cell_of_block hS.res 0
    have x4 : W.cell? ⟨_, 0, none⟩ = some _ := cell_of_block hS.turn 0
    have x5 : W.cell? ⟨_, 0, none⟩ = some _ := cell_of_block hS.n 0
    have y2 := frozen_of_block hS.res 0
    have y5 := frozen_of_block hS.n 0
    have z0 := hR.cell0
    have z1 := hR.wcell m hlen
    have hla : (m : Int) < (ws.length : Int) := by omega
    have hga : decide (ws.length ≤ m) = false := by simp; omega
    have hle := hR.le
    have HP : Hid (pre = rounds ws pre.length) := hpre
    have HM : Hid (pre.length = m) := hm
    have HLV : Hid (1 ≤ leave → (m : Int) < leave) := hlv rfl
    clear hpre hm hlv
    by_cases hi : i = m
    · subst hi
      by_cases hv : v = ws[i]?.getD 0
      · have hv' : ws[i]?.getD 0 = v := hv.symm
        rw [hv'] at z1
        have HV : Hid (ws[i]?.getD 0 = v) := hv'
        clear hv hv'
        gi_wp2
        refine wpIn_round_quiet (by kernel_rfl) (by kernel_rfl) (by kernel_rfl) ?_
        repeat (go_big_quiet_step ((go_at_call 23; exact Calls.quiet_of_same (rlen_at br _ _ _ _ z0))))
        refine wpQuiet_nil ?_
        rintro _ ⟨nq, rfl⟩
        by_cases hle2 : (i : Int) + 1 = leave
        · have hle3 : ((i : Int) + 1 == leave) = true := by simp [hle2]
          have HLE : Hid ((i : Int) + 1 = leave) := hle2
          clear hle2
          obtain ⟨g1, _, g3, g4⟩ := goes_step hS hB (by omega) (by omega) (B := W2.heap.size) (by omega) nq ((i : Int) + 1)
          gi_wp2
          exact ⟨g1, .inl ⟨rfl, rfl, by rw [List.length_append, HM.out]; exact HLE.out, by rw [List.length_append, HM.out]; exact g3⟩, g4⟩
        · have hle3 : ((i : Int) + 1 == leave) = false := by simpa using hle2
          obtain ⟨g1, g2, g3, g4⟩ := goes_step hS hB (by omega) (by omega) (B := W2.heap.size) (by omega) nq ((i : Int) + 1)
          gi_wp2
          exact ⟨g1, g2, ⟨by rw [List.length_append, HM.out]; exact g3, rounds_snoc HP.out HM.out HV.out, fun _ h2 => by rw [List.length_append, HM.out]; have := HLV.out h2; simp; omega⟩, g4⟩
      · have hne : (v != ws[i]?.getD 0) = true := by simpa using hv
        have HF : Hid (∀ j, pre ++ [(i, v)] ≠ rounds ws j) := fun j h => by
          have := rounds_last h
          rw [HM.out] at this
          exact hv (Prod.mk.inj this).2
        generalize ws[i]?.getD 0 = y at z1 hne
        clear hv
        gi_wp2
        refine wpIn_round_quiet (by kernel_rfl) (by kernel_rfl) (by kernel_rfl) ?_
        repeat (go_big_quiet_step ((go_at_call 23; exact Calls.quiet_of_same (rlen_at br _ _ _ _ z0))))
        refine wpQuiet_nil ?_
        rintro _ ⟨nq, rfl⟩
        obtain ⟨g1, g2⟩ := goes_fail hB (r := w.heap.size + 1 + 1) (by omega) (B := W2.heap.size) (by omega) nq (.bool false)
        gi_wp2
        exact ⟨g1, .inr HF.out, g2⟩
    · have hne : ((i : Int) != (m : Int)) = true := by simp; omega
      have HF : Hid (∀ j, pre ++ [(i, v)] ≠ rounds ws j) := fun j h => by
        have := rounds_last h
        rw [HM.out] at this
        exact hi (Prod.mk.inj this).1
      clear hi
      gi_wp2
      refine wpIn_round_quiet (by kernel_rfl) (by kernel_rfl) (by kernel_rfl) ?_
      repeat (go_big_quiet_step ((go_at_call 23; exact Calls.quiet_of_same (rlen_at br _ _ _ _ z0))))
      refine wpQuiet_nil ?_
      rintro _ ⟨nq, rfl⟩
      obtain ⟨g1, g2⟩ := goes_fail hB (r := w.heap.size + 1 + 1) (by omega) (B := W2.heap.size) (by omega) nq (.bool false)
      gi_wp2
      exact ⟨g1, .inr HF.out, g2⟩
  case stop =>
    rintro D c pre W hD ⟨j, hj, hpj⟩ ⟨h | h, hB⟩ hK
    · obtain ⟨rfl, _, hlv, hS⟩ := h
      rw [hpj, rounds_length] at hlv
      omega
    · exact (h (j + 1) hpj).elim
  case done =>
    rintro D ys W hD hys ⟨⟨hS, _, hlv⟩, hB⟩ hK
    rw [hys, rounds_length] at hS
    clear hlv hys
    have hq3 := hq.below hB
    have x0 : W.cell? ⟨_, 0, none⟩ = some _ := cell_of_block hS.r 0
    have x1 : W.cell? ⟨_, 0, none⟩ = some _ := cell_of_block hS.leave 0
    have x4 : W.cell? ⟨_, 0, none⟩ = some _ := cell_of_block hS.turn 0
    have x5 : W.cell? ⟨_, 0, none⟩ = some _ := cell_of_block hS.n 0
    have HLen : Hid (∀ m, Calls Try.prog 23 #[.pointer q] (W.drewN m) fun e w' => e = .returned (.int .i64 ws.length) ∧ w' = W.drewN m) := fun m => rlen_or (RefOr.drewN hq3 m)
    have hga : decide (0 < leave) = false := by simp; omega
    have hgb : decide (leave ≤ 0) = true := by simp; omega
    gi_wp2
    refine wpIn_wide.2 ?_
    refine wp_region_quiet_lit (by kernel_rfl) (by kernel_rfl) ?_
    repeat (go_big_quiet_step ((go_at_call 23; exact Calls.quiet_of_same (HLen.out _))))
    refine wpQuiet_nil ?_
    rintro _ ⟨nq, rfl⟩
    have hS3 := hS.drewN nq
    have hB3 : Below w.heap.size w (W.drewN nq) := ⟨hB.os, hB.tape, hB.output, hB.size, hB.block⟩
    have hK3 : (W.drewN nq).heap[D]? = some (.deferred (some [])) := hK
    clear x0 x1 x4 x5 HLen hS hB hK hq3
    generalize W.drewN nq = W3 at hS3 hB3 hK3 ⊢
    have x4 : W3.cell? ⟨_, 0, none⟩ = some _ := cell_of_block hS3.turn 0
    have hsz := hB3.size
    have hxl := lt_of_block hS3.t
    have hDl := lt_of_block hK3
    gi_wp2
    rw [roundsIn_succ]
    gi_wp2
    have e0 := alloc_old (alloc_old hS3.r (.cells #[.int .i64 1] 3)) (.cells #[.int .i64 0] 3)
    have e1 := alloc_old (alloc_old hS3.leave (.cells #[.int .i64 1] 3)) (.cells #[.int .i64 0] 3)
    have e2 := alloc_old (alloc_old hS3.res (.cells #[.int .i64 1] 3)) (.cells #[.int .i64 0] 3)
    have e3 := alloc_old (alloc_old hS3.t (.cells #[.int .i64 1] 3)) (.cells #[.int .i64 0] 3)
    have e4 := alloc_old (alloc_block W3 (.cells #[.int .i64 1] 3)) (.cells #[.int .i64 0] 3)
    have e5 := alloc_block (W3.alloc (.cells #[.int .i64 1] 3)) (.cells #[.int .i64 0] 3)
    have eD := alloc_old (alloc_old hK3 (.cells #[.int .i64 1] 3)) (.cells #[.int .i64 0] 3)
    have hz4 : ((W3.alloc (.cells #[.int .i64 1] 3)).alloc (.cells #[.int .i64 0] 3)).heap.size = W3.heap.size + 2 := by simp
    have hb4 : Below w.heap.size w ((W3.alloc (.cells #[.int .i64 1] 3)).alloc (.cells #[.int .i64 0] 3)) := (hB3.alloc (by omega) _).alloc (by simp; omega) _
    simp only [World.size_alloc] at e5
    generalize (W3.alloc (.cells #[.int .i64 1] 3)).alloc (.cells #[.int .i64 0] 3) = W4 at e0 e1 e2 e3 e4 e5 eD hz4 hb4 ⊢
    have hp4 := hp.below hb4
    clear x4 hS3 hB3 hK3
    refine' wpIn_rangeFunc_ownG rfl (by omega) (gf := 52) (lb := #[.pointer (some ⟨w.heap.size + 1 + 1 + 1, 0, none⟩)]) rfl trivial (enters_of Try.func52 (by kernel_rfl) rfl)
      (all_stops (3 - 1) (by omega) (w.heap.size + 1 + 1 + 1) W4.heap.size p ws W4 (Nat.le_refl _) (cell_of_block e3 0) hp4)
      (fun h k => h.trans k) (fun W l o o' _ hl ho _ => Above.putObj W l o o' hl ho) (Below.refl _ _) (fun _ => rfl)
      (fun pre W => GoesI w p q leave ws 1 W3.heap.size (W3.heap.size + 1) pre W ∧ W.heap[D]? = some (.deferred (some [])))
      (GoesX w p q leave ws 1 W3.heap.size (W3.heap.size + 1))
      (OwnFrom.and (goesI_own _ _ _ _ _ _ _ _ (by omega)) (fun _ A B row hs hg hr => (hg.block D (lt_of_block hs) (fun e => by have := (hr D e.symm).1; omega)).trans hs)) (goesX_own _ _ _ _ _ _ _ _ (by omega))
      ⟨⟨⟨⟨e0, e1, e2, e3, e4, e5⟩, rfl, fun h1 => absurd h1 (by decide)⟩, hb4⟩, eD⟩ _ ?assign ?body ?done ?stop
    case assign =>
      intro l x W K hK
      gi_wp2
      exact hK
    case body =>
      rintro l pre ⟨i, v⟩ W ⟨⟨⟨hS, hpre, hlv⟩, hB⟩, hKD⟩ hlen
      dsimp only
      rcases hq with ⟨_, hw0⟩ | ⟨br, cr, cap, rest, nr, rfl, hq'⟩
      · rw [hw0] at hlen
        simp at hlen
      have hR := hq'.below hB
      obtain ⟨m, hm⟩ : ∃ m, pre.length = m := ⟨_, rfl⟩
      rw [hm] at hS hlen hlv
      have x0 : W.cell? ⟨_, 0, none⟩ = some _ := cell_of_block hS.r 0
      have x1 : W.cell? ⟨_, 0, none⟩ = some _ := cell_of_block hS.leave 0
      have x2 : W.cell? ⟨_, 0, none⟩ = some _ := cell_of_block hS.res 0
      have x4 : W.cell? ⟨_, 0, none⟩ = some _ := cell_of_block hS.turn 0
      have x5 : W.cell? ⟨_, 0, none⟩ = some _ := cell_of_block hS.n 0
      have y2 := frozen_of_block hS.res 0
      have y5 := frozen_of_block hS.n 0
      have z0 := hR.cell0
      have z1 := hR.wcell m hlen
      have hla : (m : Int) < (ws.length : Int) := by omega
      have hga : decide (ws.length ≤ m) = false := by simp; omega
      have hle := hR.le
      have HP : Hid (pre = rounds ws pre.length) := hpre
      have HM : Hid (pre.length = m) := hm
      clear hpre hm hlv
      by_cases hi : i = m
      · subst hi
        by_cases hv : v = ws[i]?.getD 0
        · have hv' : ws[i]?.getD 0 = v := hv.symm
          rw [hv'] at z1
          have HV : Hid (ws[i]?.getD 0 = v) := hv'
          clear hv hv'
          gi_wp2
          refine wpIn_round_quiet (by kernel_rfl) (by kernel_rfl) (by kernel_rfl) ?_
          repeat (go_big_quiet_step ((go_at_call 23; exact Calls.quiet_of_same (rlen_at br _ _ _ _ z0))))
          refine wpQuiet_nil ?_
          rintro _ ⟨nq, rfl⟩
          obtain ⟨g1, g2, g3, g4⟩ := goes_step hS hB (by omega) (by omega) (B := W4.heap.size) (by omega) nq ((i : Int) + 1)
          gi_wp2
          exact ⟨g1, g2, ⟨⟨by rw [List.length_append, HM.out]; exact g3, rounds_snoc HP.out HM.out HV.out, fun h1 => absurd h1 (by decide)⟩, g4⟩, (Below.heap_setCell (W.drewN nq) ⟨W3.heap.size + 1, 0, none⟩ _ D (by simp; omega)).trans hKD⟩
        · have hne : (v != ws[i]?.getD 0) = true := by simpa using hv
          have HF : Hid (∀ j, pre ++ [(i, v)] ≠ rounds ws j) := fun j h => by
            have := rounds_last h
            rw [HM.out] at this
            exact hv (Prod.mk.inj this).2
          generalize ws[i]?.getD 0 = y at z1 hne
          clear hv
          gi_wp2
          refine wpIn_round_quiet (by kernel_rfl) (by kernel_rfl) (by kernel_rfl) ?_
          repeat (go_big_quiet_step ((go_at_call 23; exact Calls.quiet_of_same (rlen_at br _ _ _ _ z0))))
          refine wpQuiet_nil ?_
          rintro _ ⟨nq, rfl⟩
          obtain ⟨g1, g2⟩ := goes_fail hB (r := w.heap.size + 1 + 1) (by omega) (B := W4.heap.size) (by omega) nq (.bool false)
          gi_wp2
          exact ⟨g1, .inr HF.out, g2⟩
      · have hne : ((i : Int) != (m : Int)) = true := by simp; omega
        have HF : Hid (∀ j, pre ++ [(i, v)] ≠ rounds ws j) := fun j h => by
          have := rounds_last h
          rw [HM.out] at this
          exact hi (Prod.mk.inj this).1
        clear hi
        gi_wp2
        refine wpIn_round_quiet (by kernel_rfl) (by kernel_rfl) (by kernel_rfl) ?_
        repeat (go_big_quiet_step ((go_at_call 23; exact Calls.quiet_of_same (rlen_at br _ _ _ _ z0))))
        refine wpQuiet_nil ?_
        rintro _ ⟨nq, rfl⟩
        obtain ⟨g1, g2⟩ := goes_fail hB (r := w.heap.size + 1 + 1) (by omega) (B := W4.heap.size) (by omega) nq (.bool false)
        gi_wp2
        exact ⟨g1, .inr HF.out, g2⟩
    case stop =>
      rintro D' c pre W hD' ⟨j, hj, hpj⟩ ⟨h | h, hB⟩ hK
      · exact absurd h.2.1 (by decide)
      · exact (h (j + 1) hpj).elim
    case done =>
      rintro D' ys W hD' hys ⟨⟨⟨hS, _, hlv⟩, hB⟩, hKD⟩ hK
      rw [hys, rounds_length] at hS
      clear hlv hys
      have hq3 := hq.below hB
      have x0 : W.cell? ⟨_, 0, none⟩ = some _ := cell_of_block hS.r 0
      have x1 : W.cell? ⟨_, 0, none⟩ = some _ := cell_of_block hS.leave 0
      have x4 : W.cell? ⟨_, 0, none⟩ = some _ := cell_of_block hS.turn 0
      have x5 : W.cell? ⟨_, 0, none⟩ = some _ := cell_of_block hS.n 0
      have HLen : Hid (∀ m, Calls Try.prog 23 #[.pointer q] (W.drewN m) fun e w' => e = .returned (.int .i64 ws.length) ∧ w' = W.drewN m) := fun m => rlen_or (RefOr.drewN hq3 m)
      gi_wp2
      refine wpIn_wide.2 ?_
      refine wp_region_quiet_lit (by kernel_rfl) (by kernel_rfl) ?_
      repeat (go_big_quiet_step ((go_at_call 23; exact Calls.quiet_of_same (HLen.out _))))
      refine wpQuiet_nil ?_
      rintro _ ⟨nq, rfl⟩
      have hS5 := hS.drewN nq
      have hB5 : Below w.heap.size w (W.drewN nq) := ⟨hB.os, hB.tape, hB.output, hB.size, hB.block⟩
      have hK5 : (W.drewN nq).heap[D']? = some (.deferred (some [])) := hK
      have hK6 : (W.drewN nq).heap[D]? = some (.deferred (some [])) := hKD
      clear x0 x1 x4 x5 HLen hS hB hK hKD hq3
      generalize W.drewN nq = W5 at hS5 hB5 hK5 hK6 ⊢
      have x4 : W5.cell? ⟨_, 0, none⟩ = some _ := cell_of_block hS5.turn 0
      have c2 := alloc_old hS5.res (.cells #[.int .i64 2] 3)
      have x2 : (W5.alloc (.cells #[.int .i64 2] 3)).cell? ⟨_, 0, none⟩ = some _ := cell_of_block c2 0
      have y2 := frozen_of_block c2 0
      have hb6 := (hB5.alloc hB5.size (.cells #[.int .i64 2] 3)).setCell (p := ⟨w.heap.size + 1 + 1, 0, none⟩) (by simp; omega) (.bool true)
      have k5 := (KeepsOthers.setCell (W5.alloc (.cells #[.int .i64 2] 3)) ⟨w.heap.size + 1 + 1, 0, none⟩ (.bool true)).same D' _ (alloc_old hK5 _) rfl
      have k6 := (KeepsOthers.setCell (W5.alloc (.cells #[.int .i64 2] 3)) ⟨w.heap.size + 1 + 1, 0, none⟩ (.bool true)).same D _ (alloc_old hK6 _) rfl
      have r6 := block_set c2 0 (.bool true)
      gi_wp2
      rw [roundsIn_succ]
      gi_wp2
      have hDD : D ≠ D' := by omega
      have k7 := (World.putObj_heap_other (w := (W5.alloc (.cells #[.int .i64 2] 3)).setCell ⟨w.heap.size + 1 + 1, 0, none⟩ (.bool true)) (o := .deferred none) hDD).trans k6
      have r7 := block_kept r6 (grownBy_putObj' _ D' (.deferred none)) (fun r e => by cases e; exact ⟨_, k5, rfl⟩)
      have r8 := block_kept r7 (grownBy_putObj' _ D (.deferred none)) (fun r e => by cases e; exact ⟨_, k7, rfl⟩)
      have r9 := cell_of_block r8 0
      refine ⟨by simp, .inl ⟨_, _, rfl, run_takeDeferred k5, ?_⟩⟩
      refine ⟨by simp, .inl ⟨_, _, rfl, run_takeDeferred k7, ?_⟩⟩
      refine ⟨.bool true, ?_, rfl, (hb6.trans (belowK_b (w := w) (Nat.le_refl _) _ D' _ _ (by omega) k5 rfl rfl)).trans (belowK_b (w := w) (Nat.le_refl _) _ D _ _ (by omega) k7 rfl rfl)⟩
      simp [results, Try.f26, go_sem, r9]

set_option maxRecDepth 100000 in
set_option maxHeartbeats 4000000 in
theorem goes_b (p q : Option Addr) (ws : List Int) (leave : Int) (w : World) (hp : RowOr w p ws) (hq : RefOr w q ws) (hl : 1 ≤ leave) (hl2 : (ws.length : Int) < leave) :
    Calls Try.prog 26 #[.pointer p, .pointer q, .int .i64 leave] w fun e w' => e = .returned (.bool true) ∧ Below w.heap.size w w' := by
  have hnf := func_not_nil
  refine (callsIn_wide (n := 3)).1 ?_
  refine callsIn_of_wp_marks Try.func26 rfl trivial ?_ rfl
  simp only [Try.ntmps26, List.size_toArray, List.length_cons, List.length_nil, Nat.reduceAdd, Nat.reduceSub, Array.replicate_succ, Array.replicate_zero, List.push_toArray, List.append_toArray, List.nil_append, List.cons_append]
  gi_wp2_with (refine ⟨trivial, ?_⟩; gi_at_call 22; refine (callsIn_wide.2 (all_any p _)).mono ?_; rintro e w' ⟨rfl, rfl⟩)
  refine wpIn_loop_rounds 3 ?_
  rw [roundsIn_succ]
  gi_wp2
  have e0 := alloc_old (alloc_old (alloc_old (alloc_old (alloc_old (alloc_block w (.cells #[.pointer q] 30)) (.cells #[.int .i64 leave] 3)) (.cells #[.bool false] 4)) (.cells #[.pointer p] 25)) (.cells #[.int .i64 0] 3)) (.cells #[.int .i64 0] 3)
  have e1 := alloc_old (alloc_old (alloc_old (alloc_old (alloc_block (w.alloc (.cells #[.pointer q] 30)) (.cells #[.int .i64 leave] 3)) (.cells #[.bool false] 4)) (.cells #[.pointer p] 25)) (.cells #[.int .i64 0] 3)) (.cells #[.int .i64 0] 3)
  have e2 := alloc_old (alloc_old (alloc_old (alloc_block ((w.alloc (.cells #[.pointer q] 30)).alloc (.cells #[.int .i64 leave] 3)) (.cells #[.bool false] 4)) (.cells #[.pointer p] 25)) (.cells #[.int .i64 0] 3)) (.cells #[.int .i64 0] 3)
  have e3 := alloc_old (alloc_old (alloc_block (((w.alloc (.cells #[.pointer q] 30)).alloc (.cells #[.int .i64 leave] 3)).alloc (.cells #[.bool false] 4)) (.cells #[.pointer p] 25)) (.cells #[.int .i64 0] 3)) (.cells #[.int .i64 0] 3)
  have e4 := alloc_old (alloc_block ((((w.alloc (.cells #[.pointer q] 30)).alloc (.cells #[.int .i64 leave] 3)).alloc (.cells #[.bool false] 4)).alloc (.cells #[.pointer p] 25)) (.cells #[.int .i64 0] 3)) (.cells #[.int .i64 0] 3)
  have e5 := alloc_block (((((w.alloc (.cells #[.pointer q] 30)).alloc (.cells #[.int .i64 leave] 3)).alloc (.cells #[.bool false] 4)).alloc (.cells #[.pointer p] 25)).alloc (.cells #[.int .i64 0] 3)) (.cells #[.int .i64 0] 3)
  have hz2 : ((((((w.alloc (.cells #[.pointer q] 30)).alloc (.cells #[.int .i64 leave] 3)).alloc (.cells #[.bool false] 4)).alloc (.cells #[.pointer p] 25)).alloc (.cells #[.int .i64 0] 3)).alloc (.cells #[.int .i64 0] 3)).heap.size = w.heap.size + 6 := by simp
  have hb2 : Below w.heap.size w ((((((w.alloc (.cells #[.pointer q] 30)).alloc (.cells #[.int .i64 leave] 3)).alloc (.cells #[.bool false] 4)).alloc (.cells #[.pointer p] 25)).alloc (.cells #[.int .i64 0] 3)).alloc (.cells #[.int .i64 0] 3)) :=
    ((((((Below.refl _ w).alloc (Nat.le_refl _) _).alloc (by simp) _).alloc (by simp; omega) _).alloc (by simp; omega) _).alloc (by simp; omega) _).alloc (by simp; omega) _
  simp only [World.size_alloc] at e1 e2 e3 e4 e5
  generalize (((((w.alloc (.cells #[.pointer q] 30)).alloc (.cells #[.int .i64 leave] 3)).alloc (.cells #[.bool false] 4)).alloc (.cells #[.pointer p] 25)).alloc (.cells #[.int .i64 0] 3)).alloc (.cells #[.int .i64 0] 3) = W2 at e0 e1 e2 e3 e4 e5 hz2 hb2 ⊢
  have hp2 := hp.below hb2
  refine' wpIn_rangeFunc_ownG rfl (by omega) (gf := 52) (lb := #[.pointer (some ⟨w.heap.size + 1 + 1 + 1, 0, none⟩)]) rfl trivial (enters_of Try.func52 (by kernel_rfl) rfl)
    (all_stops (3 - 1) (by omega) (w.heap.size + 1 + 1 + 1) W2.heap.size p ws W2 (Nat.le_refl _) (cell_of_block e3 0) hp2)
    (fun h k => h.trans k) (fun W l o o' _ hl ho _ => Above.putObj W l o o' hl ho) (Below.refl _ _) (fun _ => rfl)
    (GoesI w p q leave ws 0 (w.heap.size + 1 + 1 + 1 + 1) (w.heap.size + 1 + 1 + 1 + 1 + 1))
    (GoesX w p q leave ws 0 (w.heap.size + 1 + 1 + 1 + 1) (w.heap.size + 1 + 1 + 1 + 1 + 1))
    (goesI_own _ _ _ _ _ _ _ _ (by omega)) (goesX_own _ _ _ _ _ _ _ _ (by omega))
    ⟨⟨⟨e0, e1, e2, e3, e4, e5⟩, rfl, fun _ h1 => by simp; omega⟩, hb2⟩ _ ?assign ?body ?done ?stop
  case assign =>
    intro l x W K hK
    gi_wp2
    exact hK
  case body =>
    rintro l pre ⟨i, v⟩ W ⟨⟨hS, hpre, hlv⟩, hB⟩ hlen
    dsimp only
    rcases hq with ⟨_, hw0⟩ | ⟨br, cr, cap, rest, nr, rfl, hq'⟩
    · rw [hw0] at hlen
      simp at hlen
    have hR := hq'.below hB
    obtain ⟨m, hm⟩ : ∃ m, pre.length = m := ⟨_, rfl⟩
    rw [hm] at hS hlen hlv
    have x0 : W.cell? ⟨_, 0, none⟩ = some _ := cell_of_block hS.r 0
    have x1 : W.cell? ⟨_, 0, none⟩ = some _ := cell_of_block hS.leave 0
    have x2 : W.cell? ⟨_, 0, none⟩ = some _ := cell_of_block hS.res 0
    have x4 : W.cell? ⟨_, 0, none⟩ = some _ := cell_of_block hS.turn 0
    have x5 : W.cell? ⟨_, 0, none⟩ = some _ := cell_of_block hS.n 0
    have y2 := frozen_of_block hS.res 0
    have y5 := frozen_of_block hS.n 0
    have z0 := hR.cell0
    have z1 := hR.wcell m hlen
    have hla : (m : Int) < (ws.length : Int) := by omega
    have hga : decide (ws.length ≤ m) = false := by simp; omega
    have hle := hR.le
    have HP : Hid (pre = rounds ws pre.length) := hpre
    have HM : Hid (pre.length = m) := hm
    have HLV : Hid (1 ≤ leave → (m : Int) < leave) := hlv rfl
    clear hpre hm hlv
    by_cases hi : i = m
    · subst hi
      by_cases hv : v = ws[i]?.getD 0
      · have hv' : ws[i]?.getD 0 = v := hv.symm
        rw [hv'] at z1
        have HV : Hid (ws[i]?.getD 0 = v) := hv'
        clear hv hv'
        gi_wp2
        refine wpIn_round_quiet (by kernel_rfl) (by kernel_rfl) (by kernel_rfl) ?_
        repeat (go_big_quiet_step ((go_at_call 23; exact Calls.quiet_of_same (rlen_at br _ _ _ _ z0))))
        refine wpQuiet_nil ?_
        rintro _ ⟨nq, rfl⟩
        by_cases hle2 : (i : Int) + 1 = leave
        · have hle3 : ((i : Int) + 1 == leave) = true := by simp [hle2]
          have HLE : Hid ((i : Int) + 1 = leave) := hle2
          clear hle2
          obtain ⟨g1, _, g3, g4⟩ := goes_step hS hB (by omega) (by omega) (B := W2.heap.size) (by omega) nq ((i : Int) + 1)
          gi_wp2
          exact ⟨g1, .inl ⟨rfl, rfl, by rw [List.length_append, HM.out]; exact HLE.out, by rw [List.length_append, HM.out]; exact g3⟩, g4⟩
        · have hle3 : ((i : Int) + 1 == leave) = false := by simpa using hle2
          obtain ⟨g1, g2, g3, g4⟩ := goes_step hS hB (by omega) (by omega) (B := W2.heap.size) (by omega) nq ((i : Int) + 1)
          gi_wp2
          exact ⟨g1, g2, ⟨by rw [List.length_append, HM.out]; exact g3, rounds_snoc HP.out HM.out HV.out, fun _ h2 => by rw [List.length_append, HM.out]; have := HLV.out h2; simp; omega⟩, g4⟩
      · have hne : (v != ws[i]?.getD 0) = true := by simpa using hv
        have HF : Hid (∀ j, pre ++ [(i, v)] ≠ rounds ws j) := fun j h => by
          have := rounds_last h
          rw [HM.out] at this
          exact hv (Prod.mk.inj this).2
        generalize ws[i]?.getD 0 = y at z1 hne
        clear hv
        gi_wp2
        refine wpIn_round_quiet (by kernel_rfl) (by kernel_rfl) (by kernel_rfl) ?_
        repeat (go_big_quiet_step ((go_at_call 23; exact Calls.quiet_of_same (rlen_at br _ _ _ _ z0))))
        refine wpQuiet_nil ?_
        rintro _ ⟨nq, rfl⟩
        obtain ⟨g1, g2⟩ := goes_fail hB (r := w.heap.size + 1 + 1) (by omega) (B := W2.heap.size) (by omega) nq (.bool false)
        gi_wp2
        exact ⟨g1, .inr HF.out, g2⟩
    · have hne : ((i : Int) != (m : Int)) = true := by simp; omega
      have HF : Hid (∀ j, pre ++ [(i, v)] ≠ rounds ws j) := fun j h => by
        have := rounds_last h
        rw [HM.out] at this
        exact hi (Prod.mk.inj this).1
      clear hi
      gi_wp2
      refine wpIn_round_quiet (by kernel_rfl) (by kernel_rfl) (by kernel_rfl) ?_
      repeat (go_big_quiet_step ((go_at_call 23; exact Calls.quiet_of_same (rlen_at br _ _ _ _ z0))))
      refine wpQuiet_nil ?_
      rintro _ ⟨nq, rfl⟩
      obtain ⟨g1, g2⟩ := goes_fail hB (r := w.heap.size + 1 + 1) (by omega) (B := W2.heap.size) (by omega) nq (.bool false)
      gi_wp2
      exact ⟨g1, .inr HF.out, g2⟩
  case stop =>
    rintro D c pre W hD ⟨j, hj, hpj⟩ ⟨h | h, hB⟩ hK
    · obtain ⟨rfl, _, hlv, hS⟩ := h
      rw [hpj, rounds_length] at hlv
      omega
    · exact (h (j + 1) hpj).elim
  case done =>
    rintro D ys W hD hys ⟨⟨hS, _, hlv⟩, hB⟩ hK
    rw [hys, rounds_length] at hS
    clear hlv hys
    have hq3 := hq.below hB
    have x0 : W.cell? ⟨_, 0, none⟩ = some _ := cell_of_block hS.r 0
    have x1 : W.cell? ⟨_, 0, none⟩ = some _ := cell_of_block hS.leave 0
    have x4 : W.cell? ⟨_, 0, none⟩ = some _ := cell_of_block hS.turn 0
    have x5 : W.cell? ⟨_, 0, none⟩ = some _ := cell_of_block hS.n 0
    have HLen : Hid (∀ m, Calls Try.prog 23 #[.pointer q] (W.drewN m) fun e w' => e = .returned (.int .i64 ws.length) ∧ w' = W.drewN m) := fun m => rlen_or (RefOr.drewN hq3 m)
    have hga : decide (0 < leave) = true := by simp; omega
    have hgb : decide (leave ≤ 0) = false := by simp; omega
    gi_wp2
    refine wpIn_wide.2 ?_
    refine wp_region_quiet_lit (by kernel_rfl) (by kernel_rfl) ?_
    repeat (go_big_quiet_step ((go_at_call 23; exact Calls.quiet_of_same (HLen.out _))))
    refine wpQuiet_nil ?_
    rintro _ ⟨nq, rfl⟩
    have hS3 := hS.drewN nq
    have hB3 : Below w.heap.size w (W.drewN nq) := ⟨hB.os, hB.tape, hB.output, hB.size, hB.block⟩
    have hK3 : (W.drewN nq).heap[D]? = some (.deferred (some [])) := hK
    clear x0 x1 x4 x5 HLen hS hB hK hq3
    generalize W.drewN nq = W3 at hS3 hB3 hK3 ⊢
    have x4 : W3.cell? ⟨_, 0, none⟩ = some _ := cell_of_block hS3.turn 0
    have hsz := hB3.size
    have hxl := lt_of_block hS3.t
    have hDl := lt_of_block hK3
    gi_wp2
    rw [roundsIn_succ]
    gi_wp2
    have e0 := alloc_old (alloc_old hS3.r (.cells #[.int .i64 1] 3)) (.cells #[.int .i64 0] 3)
    have e1 := alloc_old (alloc_old hS3.leave (.cells #[.int .i64 1] 3)) (.cells #[.int .i64 0] 3)
    have e2 := alloc_old (alloc_old hS3.res (.cells #[.int .i64 1] 3)) (.cells #[.int .i64 0] 3)
    have e3 := alloc_old (alloc_old hS3.t (.cells #[.int .i64 1] 3)) (.cells #[.int .i64 0] 3)
    have e4 := alloc_old (alloc_block W3 (.cells #[.int .i64 1] 3)) (.cells #[.int .i64 0] 3)
    have e5 := alloc_block (W3.alloc (.cells #[.int .i64 1] 3)) (.cells #[.int .i64 0] 3)
    have eD := alloc_old (alloc_old hK3 (.cells #[.int .i64 1] 3)) (.cells #[.int .i64 0] 3)
    have hz4 : ((W3.alloc (.cells #[.int .i64 1] 3)).alloc (.cells #[.int .i64 0] 3)).heap.size = W3.heap.size + 2 := by simp
    have hb4 : Below w.heap.size w ((W3.alloc (.cells #[.int .i64 1] 3)).alloc (.cells #[.int .i64 0] 3)) := (hB3.alloc (by omega) _).alloc (by simp; omega) _
    simp only [World.size_alloc] at e5
    generalize (W3.alloc (.cells #[.int .i64 1] 3)).alloc (.cells #[.int .i64 0] 3) = W4 at e0 e1 e2 e3 e4 e5 eD hz4 hb4 ⊢
    have hp4 := hp.below hb4
    clear x4 hS3 hB3 hK3
    refine' wpIn_rangeFunc_ownG rfl (by omega) (gf := 52) (lb := #[.pointer (some ⟨w.heap.size + 1 + 1 + 1, 0, none⟩)]) rfl trivial (enters_of Try.func52 (by kernel_rfl) rfl)
      (all_stops (3 - 1) (by omega) (w.heap.size + 1 + 1 + 1) W4.heap.size p ws W4 (Nat.le_refl _) (cell_of_block e3 0) hp4)
      (fun h k => h.trans k) (fun W l o o' _ hl ho _ => Above.putObj W l o o' hl ho) (Below.refl _ _) (fun _ => rfl)
      (fun pre W => GoesI w p q leave ws 1 W3.heap.size (W3.heap.size + 1) pre W ∧ W.heap[D]? = some (.deferred (some [])))
      (GoesX w p q leave ws 1 W3.heap.size (W3.heap.size + 1))
      (OwnFrom.and (goesI_own _ _ _ _ _ _ _ _ (by omega)) (fun _ A B row hs hg hr => (hg.block D (lt_of_block hs) (fun e => by have := (hr D e.symm).1; omega)).trans hs)) (goesX_own _ _ _ _ _ _ _ _ (by omega))
      ⟨⟨⟨⟨e0, e1, e2, e3, e4, e5⟩, rfl, fun h1 => absurd h1 (by decide)⟩, hb4⟩, eD⟩ _ ?assign ?body ?done ?stop
    case assign =>
      intro l x W K hK
      gi_wp2
      exact hK
    case body =>
      rintro l pre ⟨i, v⟩ W ⟨⟨⟨hS, hpre, hlv⟩, hB⟩, hKD⟩ hlen
      dsimp only
      rcases hq with ⟨_, hw0⟩ | ⟨br, cr, cap, rest, nr, rfl, hq'⟩
      · rw [hw0] at hlen
        simp at hlen
      have hR := hq'.below hB
      obtain ⟨m, hm⟩ : ∃ m, pre.length = m := ⟨_, rfl⟩
      rw [hm] at hS hlen hlv
      have x0 : W.cell? ⟨_, 0, none⟩ = some _ := cell_of_block hS.r 0
      have x1 : W.cell? ⟨_, 0, none⟩ = some _ := cell_of_block hS.leave 0
      have x2 : W.cell? ⟨_, 0, none⟩ = some _ := cell_of_block hS.res 0
      have x4 : W.cell? ⟨_, 0, none⟩ = some _ := cell_of_block hS.turn 0
      have x5 : W.cell? ⟨_, 0, none⟩ = some _ := cell_of_block hS.n 0
      have y2 := frozen_of_block hS.res 0
      have y5 := frozen_of_block hS.n 0
      have z0 := hR.cell0
      have z1 := hR.wcell m hlen
      have hla : (m : Int) < (ws.length : Int) := by omega
      have hga : decide (ws.length ≤ m) = false := by simp; omega
      have hle := hR.le
      have HP : Hid (pre = rounds ws pre.length) := hpre
      have HM : Hid (pre.length = m) := hm
      clear hpre hm hlv
      by_cases hi : i = m
      · subst hi
        by_cases hv : v = ws[i]?.getD 0
        · have hv' : ws[i]?.getD 0 = v := hv.symm
          rw [hv'] at z1
          have HV : Hid (ws[i]?.getD 0 = v) := hv'
          clear hv hv'
          gi_wp2
          refine wpIn_round_quiet (by kernel_rfl) (by kernel_rfl) (by kernel_rfl) ?_
          repeat (go_big_quiet_step ((go_at_call 23; exact Calls.quiet_of_same (rlen_at br _ _ _ _ z0))))
          refine wpQuiet_nil ?_
          rintro _ ⟨nq, rfl⟩
          obtain ⟨g1, g2, g3, g4⟩ := goes_step hS hB (by omega) (by omega) (B := W4.heap.size) (by omega) nq ((i : Int) + 1)
          gi_wp2
          exact ⟨g1, g2, ⟨⟨by rw [List.length_append, HM.out]; exact g3, rounds_snoc HP.out HM.out HV.out, fun h1 => absurd h1 (by decide)⟩, g4⟩, (Below.heap_setCell (W.drewN nq) ⟨W3.heap.size + 1, 0, none⟩ _ D (by simp; omega)).trans hKD⟩
        · have hne : (v != ws[i]?.getD 0) = true := by simpa using hv
          have HF : Hid (∀ j, pre ++ [(i, v)] ≠ rounds ws j) := fun j h => by
            have := rounds_last h
            rw [HM.out] at this
            exact hv (Prod.mk.inj this).2
          generalize ws[i]?.getD 0 = y at z1 hne
          clear hv
          gi_wp2
          refine wpIn_round_quiet (by kernel_rfl) (by kernel_rfl) (by kernel_rfl) ?_
          repeat (go_big_quiet_step ((go_at_call 23; exact Calls.quiet_of_same (rlen_at br _ _ _ _ z0))))
          refine wpQuiet_nil ?_
          rintro _ ⟨nq, rfl⟩
          obtain ⟨g1, g2⟩ := goes_fail hB (r := w.heap.size + 1 + 1) (by omega) (B := W4.heap.size) (by omega) nq (.bool false)
          gi_wp2
          exact ⟨g1, .inr HF.out, g2⟩
      · have hne : ((i : Int) != (m : Int)) = true := by simp; omega
        have HF : Hid (∀ j, pre ++ [(i, v)] ≠ rounds ws j) := fun j h => by
          have := rounds_last h
          rw [HM.out] at this
          exact hi (Prod.mk.inj this).1
        clear hi
        gi_wp2
        refine wpIn_round_quiet (by kernel_rfl) (by kernel_rfl) (by kernel_rfl) ?_
        repeat (go_big_quiet_step ((go_at_call 23; exact Calls.quiet_of_same (rlen_at br _ _ _ _ z0))))
        refine wpQuiet_nil ?_
        rintro _ ⟨nq, rfl⟩
        obtain ⟨g1, g2⟩ := goes_fail hB (r := w.heap.size + 1 + 1) (by omega) (B := W4.heap.size) (by omega) nq (.bool false)
        gi_wp2
        exact ⟨g1, .inr HF.out, g2⟩
    case stop =>
      rintro D' c pre W hD' ⟨j, hj, hpj⟩ ⟨h | h, hB⟩ hK
      · exact absurd h.2.1 (by decide)
      · exact (h (j + 1) hpj).elim
    case done =>
      rintro D' ys W hD' hys ⟨⟨⟨hS, _, hlv⟩, hB⟩, hKD⟩ hK
      rw [hys, rounds_length] at hS
      clear hlv hys
      have hq3 := hq.below hB
      have x0 : W.cell? ⟨_, 0, none⟩ = some _ := cell_of_block hS.r 0
      have x1 : W.cell? ⟨_, 0, none⟩ = some _ := cell_of_block hS.leave 0
      have x4 : W.cell? ⟨_, 0, none⟩ = some _ := cell_of_block hS.turn 0
      have x5 : W.cell? ⟨_, 0, none⟩ = some _ := cell_of_block hS.n 0
      have HLen : Hid (∀ m, Calls Try.prog 23 #[.pointer q] (W.drewN m) fun e w' => e = .returned (.int .i64 ws.length) ∧ w' = W.drewN m) := fun m => rlen_or (RefOr.drewN hq3 m)
      gi_wp2
      refine wpIn_wide.2 ?_
      refine wp_region_quiet_lit (by kernel_rfl) (by kernel_rfl) ?_
      repeat (go_big_quiet_step ((go_at_call 23; exact Calls.quiet_of_same (HLen.out _))))
      refine wpQuiet_nil ?_
      rintro _ ⟨nq, rfl⟩
      have hS5 := hS.drewN nq
      have hB5 : Below w.heap.size w (W.drewN nq) := ⟨hB.os, hB.tape, hB.output, hB.size, hB.block⟩
      have hK5 : (W.drewN nq).heap[D']? = some (.deferred (some [])) := hK
      have hK6 : (W.drewN nq).heap[D]? = some (.deferred (some [])) := hKD
      clear x0 x1 x4 x5 HLen hS hB hK hKD hq3
      generalize W.drewN nq = W5 at hS5 hB5 hK5 hK6 ⊢
      have x4 : W5.cell? ⟨_, 0, none⟩ = some _ := cell_of_block hS5.turn 0
      have c2 := alloc_old hS5.res (.cells #[.int .i64 2] 3)
      have x2 : (W5.alloc (.cells #[.int .i64 2] 3)).cell? ⟨_, 0, none⟩ = some _ := cell_of_block c2 0
      have y2 := frozen_of_block c2 0
      have hb6 := (hB5.alloc hB5.size (.cells #[.int .i64 2] 3)).setCell (p := ⟨w.heap.size + 1 + 1, 0, none⟩) (by simp; omega) (.bool true)
      have k5 := (KeepsOthers.setCell (W5.alloc (.cells #[.int .i64 2] 3)) ⟨w.heap.size + 1 + 1, 0, none⟩ (.bool true)).same D' _ (alloc_old hK5 _) rfl
      have k6 := (KeepsOthers.setCell (W5.alloc (.cells #[.int .i64 2] 3)) ⟨w.heap.size + 1 + 1, 0, none⟩ (.bool true)).same D _ (alloc_old hK6 _) rfl
      have r6 := block_set c2 0 (.bool true)
      gi_wp2
      rw [roundsIn_succ]
      gi_wp2
      have hDD : D ≠ D' := by omega
      have k7 := (World.putObj_heap_other (w := (W5.alloc (.cells #[.int .i64 2] 3)).setCell ⟨w.heap.size + 1 + 1, 0, none⟩ (.bool true)) (o := .deferred none) hDD).trans k6
      have r7 := block_kept r6 (grownBy_putObj' _ D' (.deferred none)) (fun r e => by cases e; exact ⟨_, k5, rfl⟩)
      have r8 := block_kept r7 (grownBy_putObj' _ D (.deferred none)) (fun r e => by cases e; exact ⟨_, k7, rfl⟩)
      have r9 := cell_of_block r8 0
      refine ⟨by simp, .inl ⟨_, _, rfl, run_takeDeferred k5, ?_⟩⟩
      refine ⟨by simp, .inl ⟨_, _, rfl, run_takeDeferred k7, ?_⟩⟩
      refine ⟨.bool true, ?_, rfl, (hb6.trans (belowK_b (w := w) (Nat.le_refl _) _ D' _ _ (by omega) k5 rfl rfl)).trans (belowK_b (w := w) (Nat.le_refl _) _ D _ _ (by omega) k7 rfl rfl)⟩
      simp [results, Try.f26, go_sem, r9]

set_option maxRecDepth 100000 in
set_option maxHeartbeats 4000000 in
theorem goes_c (p q : Option Addr) (ws : List Int) (leave : Int) (w : World) (hp : RowOr w p ws) (hq : RefOr w q ws) (hl : 1 ≤ leave) (hl2 : leave ≤ (ws.length : Int)) :
    Calls Try.prog 26 #[.pointer p, .pointer q, .int .i64 leave] w fun e w' => e = .returned (.bool true) ∧ Below w.heap.size w w' := by
  have hnf := func_not_nil
  refine (callsIn_wide (n := 3)).1 ?_
  refine callsIn_of_wp_marks Try.func26 rfl trivial ?_ rfl
  simp only [Try.ntmps26, List.size_toArray, List.length_cons, List.length_nil, Nat.reduceAdd, Nat.reduceSub, Array.replicate_succ, Array.replicate_zero, List.push_toArray, List.append_toArray, List.nil_append, List.cons_append]
  gi_wp2_with (refine ⟨trivial, ?_⟩; gi_at_call 22; refine (callsIn_wide.2 (all_any p _)).mono ?_; rintro e w' ⟨rfl, rfl⟩)
  refine wpIn_loop_rounds 3 ?_
  rw [roundsIn_succ]
  gi_wp2
  have e0 := alloc_old (alloc_old (alloc_old (alloc_old (alloc_old (alloc_block w (.cells #[.pointer q] 30)) (.cells #[.int .i64 leave] 3)) (.cells #[.bool false] 4)) (.cells #[.pointer p] 25)) (.cells #[.int .i64 0] 3)) (.cells #[.int .i64 0] 3)
  have e1 := alloc_old (alloc_old (alloc_old (alloc_old (alloc_block (w.alloc (.cells #[.pointer q] 30)) (.cells #[.int .i64 leave] 3)) (.cells #[.bool false] 4)) (.cells #[.pointer p] 25)) (.cells #[.int .i64 0] 3)) (.cells #[.int .i64 0] 3)
  have e2 := alloc_old (alloc_old (alloc_old (alloc_block ((w.alloc (.cells #[.pointer q] 30)).alloc (.cells #[.int .i64 leave] 3)) (.cells #[.bool false] 4)) (.cells #[.pointer p] 25)) (.cells #[.int .i64 0] 3)) (.cells #[.int .i64 0] 3)
  have e3 := alloc_old (alloc_old (alloc_block (((w.alloc (.cells #[.pointer q] 30)).alloc (.cells #[.int .i64 leave] 3)).alloc (.cells #[.bool false] 4)) (.cells #[.pointer p] 25)) (.cells #[.int .i64 0] 3)) (.cells #[.int .i64 0] 3)
  have e4 := alloc_old (alloc_block ((((w.alloc (.cells #[.pointer q] 30)).alloc (.cells #[.int .i64 leave] 3)).alloc (.cells #[.bool false] 4)).alloc (.cells #[.pointer p] 25)) (.cells #[.int .i64 0] 3)) (.cells #[.int .i64 0] 3)
  have e5 := alloc_block (((((w.alloc (.cells #[.pointer q] 30)).alloc (.cells #[.int .i64 leave] 3)).alloc (.cells #[.bool false] 4)).alloc (.cells #[.pointer p] 25)).alloc (.cells #[.int .i64 0] 3)) (.cells #[.int .i64 0] 3)
  have hz2 : ((((((w.alloc (.cells #[.pointer q] 30)).alloc (.cells #[.int .i64 leave] 3)).alloc (.cells #[.bool false] 4)).alloc (.cells #[.pointer p] 25)).alloc (.cells #[.int .i64 0] 3)).alloc (.cells #[.int .i64 0] 3)).heap.size = w.heap.size + 6 := by simp
  have hb2 : Below w.heap.size w ((((((w.alloc (.cells #[.pointer q] 30)).alloc (.cells #[.int .i64 leave] 3)).alloc (.cells #[.bool false] 4)).alloc (.cells #[.pointer p] 25)).alloc (.cells #[.int .i64 0] 3)).alloc (.cells #[.int .i64 0] 3)) :=
    ((((((Below.refl _ w).alloc (Nat.le_refl _) _).alloc (by simp) _).alloc (by simp; omega) _).alloc (by simp; omega) _).alloc (by simp; omega) _).alloc (by simp; omega) _
  simp only [World.size_alloc] at e1 e2 e3 e4 e5
  generalize (((((w.alloc (.cells #[.pointer q] 30)).alloc (.cells #[.int .i64 leave] 3)).alloc (.cells #[.bool false] 4)).alloc (.cells #[.pointer p] 25)).alloc (.cells #[.int .i64 0] 3)).alloc (.cells #[.int .i64 0] 3) = W2 at e0 e1 e2 e3 e4 e5 hz2 hb2 ⊢
  have hp2 := hp.below hb2
  refine' wpIn_rangeFunc_ownG rfl (by omega) (gf := 52) (lb := #[.pointer (some ⟨w.heap.size + 1 + 1 + 1, 0, none⟩)]) rfl trivial (enters_of Try.func52 (by kernel_rfl) rfl)
    (all_stops (3 - 1) (by omega) (w.heap.size + 1 + 1 + 1) W2.heap.size p ws W2 (Nat.le_refl _) (cell_of_block e3 0) hp2)
    (fun h k => h.trans k) (fun W l o o' _ hl ho _ => Above.putObj W l o o' hl ho) (Below.refl _ _) (fun _ => rfl)
    (GoesI w p q leave ws 0 (w.heap.size + 1 + 1 + 1 + 1) (w.heap.size + 1 + 1 + 1 + 1 + 1))
    (GoesX w p q leave ws 0 (w.heap.size + 1 + 1 + 1 + 1) (w.heap.size + 1 + 1 + 1 + 1 + 1))
    (goesI_own _ _ _ _ _ _ _ _ (by omega)) (goesX_own _ _ _ _ _ _ _ _ (by omega))
    ⟨⟨⟨e0, e1, e2, e3, e4, e5⟩, rfl, fun _ h1 => by simp; omega⟩, hb2⟩ _ ?assign ?body ?done ?stop
  case assign =>
    intro l x W K hK
    gi_wp2
    exact hK
  case body =>
    rintro l pre ⟨i, v⟩ W ⟨⟨hS, hpre, hlv⟩, hB⟩ hlen
    dsimp only
    rcases hq with ⟨_, hw0⟩ | ⟨br, cr, cap, rest, nr, rfl, hq'⟩
    · rw [hw0] at hlen
      simp at hlen
    have hR := hq'.below hB
    obtain ⟨m, hm⟩ : ∃ m, pre.length = m := ⟨_, rfl⟩
    rw [hm] at hS hlen hlv
    have x0 : W.cell? ⟨_, 0, none⟩ = some _ := cell_of_block hS.r 0
    have x1 : W.cell? ⟨_, 0, none⟩ = some _ := cell_of_block hS.leave 0
    have x2 : W.cell? ⟨_, 0, none⟩ = some _ := cell_of_block hS.res 0
    have x4 : W.cell? ⟨_, 0, none⟩ = some _ := cell_of_block hS.turn 0
    have x5 : W.cell? ⟨_, 0, none⟩ = some _ := cell_of_block hS.n 0
    have y2 := frozen_of_block hS.res 0
    have y5 := frozen_of_block hS.n 0
    have z0 := hR.cell0
    have z1 := hR.wcell m hlen
    have hla : (m : Int) < (ws.length : Int) := by omega
    have hga : decide (ws.length ≤ m) = false := by simp; omega
    have hle := hR.le
    have HP : Hid (pre = rounds ws pre.length) := hpre
    have HM : Hid (pre.length = m) := hm
    have HLV : Hid (1 ≤ leave → (m : Int) < leave) := hlv rfl
    clear hpre hm hlv
    by_cases hi : i = m
    · subst hi
      by_cases hv : v = ws[i]?.getD 0
      · have hv' : ws[i]?.getD 0 = v := hv.symm
        rw [hv'] at z1
        have HV : Hid (ws[i]?.getD 0 = v) := hv'
        clear hv hv'
        gi_wp2
        refine wpIn_round_quiet (by kernel_rfl) (by kernel_rfl) (by kernel_rfl) ?_
        repeat (go_big_quiet_step ((go_at_call 23; exact Calls.quiet_of_same (rlen_at br _ _ _ _ z0))))
        refine wpQuiet_nil ?_
        rintro _ ⟨nq, rfl⟩
        by_cases hle2 : (i : Int) + 1 = leave
        · have hle3 : ((i : Int) + 1 == leave) = true := by simp [hle2]
          have HLE : Hid ((i : Int) + 1 = leave) := hle2
          clear hle2
          obtain ⟨g1, _, g3, g4⟩ := goes_step hS hB (by omega) (by omega) (B := W2.heap.size) (by omega) nq ((i : Int) + 1)
          gi_wp2
          exact ⟨g1, .inl ⟨rfl, rfl, by rw [List.length_append, HM.out]; exact HLE.out, by rw [List.length_append, HM.out]; exact g3⟩, g4⟩
        · have hle3 : ((i : Int) + 1 == leave) = false := by simpa using hle2
          obtain ⟨g1, g2, g3, g4⟩ := goes_step hS hB (by omega) (by omega) (B := W2.heap.size) (by omega) nq ((i : Int) + 1)
          gi_wp2
          exact ⟨g1, g2, ⟨by rw [List.length_append, HM.out]; exact g3, rounds_snoc HP.out HM.out HV.out, fun _ h2 => by rw [List.length_append, HM.out]; have := HLV.out h2; simp; omega⟩, g4⟩
      · have hne : (v != ws[i]?.getD 0) = true := by simpa using hv
        have HF : Hid (∀ j, pre ++ [(i, v)] ≠ rounds ws j) := fun j h => by
          have := rounds_last h
          rw [HM.out] at this
          exact hv (Prod.mk.inj this).2
        generalize ws[i]?.getD 0 = y at z1 hne
        clear hv
        gi_wp2
        refine wpIn_round_quiet (by kernel_rfl) (by kernel_rfl) (by kernel_rfl) ?_
        repeat (go_big_quiet_step ((go_at_call 23; exact Calls.quiet_of_same (rlen_at br _ _ _ _ z0))))
        refine wpQuiet_nil ?_
        rintro _ ⟨nq, rfl⟩
        obtain ⟨g1, g2⟩ := goes_fail hB (r := w.heap.size + 1 + 1) (by omega) (B := W2.heap.size) (by omega) nq (.bool false)
        gi_wp2
        exact ⟨g1, .inr HF.out, g2⟩
    · have hne : ((i : Int) != (m : Int)) = true := by simp; omega
      have HF : Hid (∀ j, pre ++ [(i, v)] ≠ rounds ws j) := fun j h => by
        have := rounds_last h
        rw [HM.out] at this
        exact hi (Prod.mk.inj this).1
      clear hi
      gi_wp2
      refine wpIn_round_quiet (by kernel_rfl) (by kernel_rfl) (by kernel_rfl) ?_
      repeat (go_big_quiet_step ((go_at_call 23; exact Calls.quiet_of_same (rlen_at br _ _ _ _ z0))))
      refine wpQuiet_nil ?_
      rintro _ ⟨nq, rfl⟩
      obtain ⟨g1, g2⟩ := goes_fail hB (r := w.heap.size + 1 + 1) (by omega) (B := W2.heap.size) (by omega) nq (.bool false)
      gi_wp2
      exact ⟨g1, .inr HF.out, g2⟩
  case done =>
    rintro D ys W hD hys ⟨⟨hS, _, hlv⟩, hB⟩ hK
    rw [hys, rounds_length] at hlv
    have := hlv rfl hl
    omega
  case stop =>
    rintro D c pre W hD ⟨j, hj, hpj⟩ ⟨h | h, hB⟩ hK
    rotate_left
    · exact (h (j + 1) hpj).elim
    obtain ⟨rfl, _, hlv, hS⟩ := h
    rw [hlv] at hS
    clear hlv hpj hj
    have hq3 := hq.below hB
    have x0 : W.cell? ⟨_, 0, none⟩ = some _ := cell_of_block hS.r 0
    have x1 : W.cell? ⟨_, 0, none⟩ = some _ := cell_of_block hS.leave 0
    have x4 : W.cell? ⟨_, 0, none⟩ = some _ := cell_of_block hS.turn 0
    have x5 : W.cell? ⟨_, 0, none⟩ = some _ := cell_of_block hS.n 0
    have HLen : Hid (∀ m, Calls Try.prog 23 #[.pointer q] (W.drewN m) fun e w' => e = .returned (.int .i64 ws.length) ∧ w' = W.drewN m) := fun m => rlen_or (RefOr.drewN hq3 m)
    have hga : decide (0 < leave) = true := by simp; omega
    have hgb : decide (leave ≤ 0) = false := by simp; omega
    have hgc : ¬ (ws.length : Int) < leave := by omega
    gi_wp2
    refine wpIn_wide.2 ?_
    refine wp_region_quiet_lit (by kernel_rfl) (by kernel_rfl) ?_
    repeat (go_big_quiet_step ((go_at_call 23; exact Calls.quiet_of_same (HLen.out _))))
    refine wpQuiet_nil ?_
    rintro _ ⟨nq, rfl⟩
    have hS3 := hS.drewN nq
    have hB3 : Below w.heap.size w (W.drewN nq) := ⟨hB.os, hB.tape, hB.output, hB.size, hB.block⟩
    have hK3 : (W.drewN nq).heap[D]? = some (.deferred (some [])) := hK
    clear x0 x1 x4 x5 HLen hS hB hK hq3
    generalize W.drewN nq = W3 at hS3 hB3 hK3 ⊢
    have x4 : W3.cell? ⟨_, 0, none⟩ = some _ := cell_of_block hS3.turn 0
    have hsz := hB3.size
    have hxl := lt_of_block hS3.t
    have hDl := lt_of_block hK3
    gi_wp2
    rw [roundsIn_succ]
    gi_wp2
    have e0 := alloc_old (alloc_old hS3.r (.cells #[.int .i64 1] 3)) (.cells #[.int .i64 0] 3)
    have e1 := alloc_old (alloc_old hS3.leave (.cells #[.int .i64 1] 3)) (.cells #[.int .i64 0] 3)
    have e2 := alloc_old (alloc_old hS3.res (.cells #[.int .i64 1] 3)) (.cells #[.int .i64 0] 3)
    have e3 := alloc_old (alloc_old hS3.t (.cells #[.int .i64 1] 3)) (.cells #[.int .i64 0] 3)
    have e4 := alloc_old (alloc_block W3 (.cells #[.int .i64 1] 3)) (.cells #[.int .i64 0] 3)
    have e5 := alloc_block (W3.alloc (.cells #[.int .i64 1] 3)) (.cells #[.int .i64 0] 3)
    have eD := alloc_old (alloc_old hK3 (.cells #[.int .i64 1] 3)) (.cells #[.int .i64 0] 3)
    have hz4 : ((W3.alloc (.cells #[.int .i64 1] 3)).alloc (.cells #[.int .i64 0] 3)).heap.size = W3.heap.size + 2 := by simp
    have hb4 : Below w.heap.size w ((W3.alloc (.cells #[.int .i64 1] 3)).alloc (.cells #[.int .i64 0] 3)) := (hB3.alloc (by omega) _).alloc (by simp; omega) _
    simp only [World.size_alloc] at e5
    generalize (W3.alloc (.cells #[.int .i64 1] 3)).alloc (.cells #[.int .i64 0] 3) = W4 at e0 e1 e2 e3 e4 e5 eD hz4 hb4 ⊢
    have hp4 := hp.below hb4
    clear x4 hS3 hB3 hK3
    refine' wpIn_rangeFunc_ownG rfl (by omega) (gf := 52) (lb := #[.pointer (some ⟨w.heap.size + 1 + 1 + 1, 0, none⟩)]) rfl trivial (enters_of Try.func52 (by kernel_rfl) rfl)
      (all_stops (3 - 1) (by omega) (w.heap.size + 1 + 1 + 1) W4.heap.size p ws W4 (Nat.le_refl _) (cell_of_block e3 0) hp4)
      (fun h k => h.trans k) (fun W l o o' _ hl ho _ => Above.putObj W l o o' hl ho) (Below.refl _ _) (fun _ => rfl)
      (fun pre W => GoesI w p q leave ws 1 W3.heap.size (W3.heap.size + 1) pre W ∧ W.heap[D]? = some (.deferred (some [])))
      (GoesX w p q leave ws 1 W3.heap.size (W3.heap.size + 1))
      (OwnFrom.and (goesI_own _ _ _ _ _ _ _ _ (by omega)) (fun _ A B row hs hg hr => (hg.block D (lt_of_block hs) (fun e => by have := (hr D e.symm).1; omega)).trans hs)) (goesX_own _ _ _ _ _ _ _ _ (by omega))
      ⟨⟨⟨⟨e0, e1, e2, e3, e4, e5⟩, rfl, fun h1 => absurd h1 (by decide)⟩, hb4⟩, eD⟩ _ ?assign ?body ?done ?stop
    case assign =>
      intro l x W K hK
      gi_wp2
      exact hK
    case body =>
      rintro l pre ⟨i, v⟩ W ⟨⟨⟨hS, hpre, hlv⟩, hB⟩, hKD⟩ hlen
      dsimp only
      rcases hq with ⟨_, hw0⟩ | ⟨br, cr, cap, rest, nr, rfl, hq'⟩
      · rw [hw0] at hlen
        simp at hlen
      have hR := hq'.below hB
      obtain ⟨m, hm⟩ : ∃ m, pre.length = m := ⟨_, rfl⟩
      rw [hm] at hS hlen hlv
      have x0 : W.cell? ⟨_, 0, none⟩ = some _ := cell_of_block hS.r 0
      have x1 : W.cell? ⟨_, 0, none⟩ = some _ := cell_of_block hS.leave 0
      have x2 : W.cell? ⟨_, 0, none⟩ = some _ := cell_of_block hS.res 0
      have x4 : W.cell? ⟨_, 0, none⟩ = some _ := cell_of_block hS.turn 0
      have x5 : W.cell? ⟨_, 0, none⟩ = some _ := cell_of_block hS.n 0
      have y2 := frozen_of_block hS.res 0
      have y5 := frozen_of_block hS.n 0
      have z0 := hR.cell0
      have z1 := hR.wcell m hlen
      have hla : (m : Int) < (ws.length : Int) := by omega
      have hga : decide (ws.length ≤ m) = false := by simp; omega
      have hle := hR.le
      have HP : Hid (pre = rounds ws pre.length) := hpre
      have HM : Hid (pre.length = m) := hm
      clear hpre hm hlv
      by_cases hi : i = m
      · subst hi
        by_cases hv : v = ws[i]?.getD 0
        · have hv' : ws[i]?.getD 0 = v := hv.symm
          rw [hv'] at z1
          have HV : Hid (ws[i]?.getD 0 = v) := hv'
          clear hv hv'
          gi_wp2
          refine wpIn_round_quiet (by kernel_rfl) (by kernel_rfl) (by kernel_rfl) ?_
          repeat (go_big_quiet_step ((go_at_call 23; exact Calls.quiet_of_same (rlen_at br _ _ _ _ z0))))
          refine wpQuiet_nil ?_
          rintro _ ⟨nq, rfl⟩
          obtain ⟨g1, g2, g3, g4⟩ := goes_step hS hB (by omega) (by omega) (B := W4.heap.size) (by omega) nq ((i : Int) + 1)
          gi_wp2
          exact ⟨g1, g2, ⟨⟨by rw [List.length_append, HM.out]; exact g3, rounds_snoc HP.out HM.out HV.out, fun h1 => absurd h1 (by decide)⟩, g4⟩, (Below.heap_setCell (W.drewN nq) ⟨W3.heap.size + 1, 0, none⟩ _ D (by simp; omega)).trans hKD⟩
        · have hne : (v != ws[i]?.getD 0) = true := by simpa using hv
          have HF : Hid (∀ j, pre ++ [(i, v)] ≠ rounds ws j) := fun j h => by
            have := rounds_last h
            rw [HM.out] at this
            exact hv (Prod.mk.inj this).2
          generalize ws[i]?.getD 0 = y at z1 hne
          clear hv
          gi_wp2
          refine wpIn_round_quiet (by kernel_rfl) (by kernel_rfl) (by kernel_rfl) ?_
          repeat (go_big_quiet_step ((go_at_call 23; exact Calls.quiet_of_same (rlen_at br _ _ _ _ z0))))
          refine wpQuiet_nil ?_
          rintro _ ⟨nq, rfl⟩
          obtain ⟨g1, g2⟩ := goes_fail hB (r := w.heap.size + 1 + 1) (by omega) (B := W4.heap.size) (by omega) nq (.bool false)
          gi_wp2
          exact ⟨g1, .inr HF.out, g2⟩
      · have hne : ((i : Int) != (m : Int)) = true := by simp; omega
        have HF : Hid (∀ j, pre ++ [(i, v)] ≠ rounds ws j) := fun j h => by
          have := rounds_last h
          rw [HM.out] at this
          exact hi (Prod.mk.inj this).1
        clear hi
        gi_wp2
        refine wpIn_round_quiet (by kernel_rfl) (by kernel_rfl) (by kernel_rfl) ?_
        repeat (go_big_quiet_step ((go_at_call 23; exact Calls.quiet_of_same (rlen_at br _ _ _ _ z0))))
        refine wpQuiet_nil ?_
        rintro _ ⟨nq, rfl⟩
        obtain ⟨g1, g2⟩ := goes_fail hB (r := w.heap.size + 1 + 1) (by omega) (B := W4.heap.size) (by omega) nq (.bool false)
        gi_wp2
        exact ⟨g1, .inr HF.out, g2⟩
    case stop =>
      rintro D' c pre W hD' ⟨j, hj, hpj⟩ ⟨h | h, hB⟩ hK
      · exact absurd h.2.1 (by decide)
      · exact (h (j + 1) hpj).elim
    case done =>
      rintro D' ys W hD' hys ⟨⟨⟨hS, _, hlv⟩, hB⟩, hKD⟩ hK
      rw [hys, rounds_length] at hS
      clear hlv hys
      have hq3 := hq.below hB
      have x0 : W.cell? ⟨_, 0, none⟩ = some _ := cell_of_block hS.r 0
      have x1 : W.cell? ⟨_, 0, none⟩ = some _ := cell_of_block hS.leave 0
      have x4 : W.cell? ⟨_, 0, none⟩ = some _ := cell_of_block hS.turn 0
      have x5 : W.cell? ⟨_, 0, none⟩ = some _ := cell_of_block hS.n 0
      have HLen : Hid (∀ m, Calls Try.prog 23 #[.pointer q] (W.drewN m) fun e w' => e = .returned (.int .i64 ws.length) ∧ w' = W.drewN m) := fun m => rlen_or (RefOr.drewN hq3 m)
      gi_wp2
      refine wpIn_wide.2 ?_
      refine wp_region_quiet_lit (by kernel_rfl) (by kernel_rfl) ?_
      repeat (go_big_quiet_step ((go_at_call 23; exact Calls.quiet_of_same (HLen.out _))))
      refine wpQuiet_nil ?_
      rintro _ ⟨nq, rfl⟩
      have hS5 := hS.drewN nq
      have hB5 : Below w.heap.size w (W.drewN nq) := ⟨hB.os, hB.tape, hB.output, hB.size, hB.block⟩
      have hK5 : (W.drewN nq).heap[D']? = some (.deferred (some [])) := hK
      have hK6 : (W.drewN nq).heap[D]? = some (.deferred (some [])) := hKD
      clear x0 x1 x4 x5 HLen hS hB hK hKD hq3
      generalize W.drewN nq = W5 at hS5 hB5 hK5 hK6 ⊢
      have x4 : W5.cell? ⟨_, 0, none⟩ = some _ := cell_of_block hS5.turn 0
      have c2 := alloc_old hS5.res (.cells #[.int .i64 2] 3)
      have x2 : (W5.alloc (.cells #[.int .i64 2] 3)).cell? ⟨_, 0, none⟩ = some _ := cell_of_block c2 0
      have y2 := frozen_of_block c2 0
      have hb6 := (hB5.alloc hB5.size (.cells #[.int .i64 2] 3)).setCell (p := ⟨w.heap.size + 1 + 1, 0, none⟩) (by simp; omega) (.bool true)
      have k5 := (KeepsOthers.setCell (W5.alloc (.cells #[.int .i64 2] 3)) ⟨w.heap.size + 1 + 1, 0, none⟩ (.bool true)).same D' _ (alloc_old hK5 _) rfl
      have k6 := (KeepsOthers.setCell (W5.alloc (.cells #[.int .i64 2] 3)) ⟨w.heap.size + 1 + 1, 0, none⟩ (.bool true)).same D _ (alloc_old hK6 _) rfl
      have r6 := block_set c2 0 (.bool true)
      gi_wp2
      rw [roundsIn_succ]
      gi_wp2
      have hDD : D ≠ D' := by omega
      have k7 := (World.putObj_heap_other (w := (W5.alloc (.cells #[.int .i64 2] 3)).setCell ⟨w.heap.size + 1 + 1, 0, none⟩ (.bool true)) (o := .deferred none) hDD).trans k6
      have r7 := block_kept r6 (grownBy_putObj' _ D' (.deferred none)) (fun r e => by cases e; exact ⟨_, k5, rfl⟩)
      have r8 := block_kept r7 (grownBy_putObj' _ D (.deferred none)) (fun r e => by cases e; exact ⟨_, k7, rfl⟩)
      have r9 := cell_of_block r8 0
      refine ⟨by simp, .inl ⟨_, _, rfl, run_takeDeferred k5, ?_⟩⟩
      refine ⟨by simp, .inl ⟨_, _, rfl, run_takeDeferred k7, ?_⟩⟩
      refine ⟨.bool true, ?_, rfl, (hb6.trans (belowK_b (w := w) (Nat.le_refl _) _ D' _ _ (by omega) k5 rfl rfl)).trans (belowK_b (w := w) (Nat.le_refl _) _ D _ _ (by omega) k7 rfl rfl)⟩
      simp [results, Try.f26, go_sem, r9]

/-- All gone over twice, the first time left behind some rounds: as the document's row has it. -/
theorem goes_at (p q : Option Addr) (ws : List Int) (leave : Int) (w : World) (hp : RowOr w p ws) (hq : RefOr w q ws) :
    Calls Try.prog 26 #[.pointer p, .pointer q, .int .i64 leave] w fun e w' => e = .returned (.bool true) ∧ Below w.heap.size w w' := by
  by_cases h1 : leave < 1
  · exact goes_a p q ws leave w hp hq h1
  · by_cases h2 : (ws.length : Int) < leave
    · exact goes_b p q ws leave w hp hq (by omega) h2
    · exact goes_c p q ws leave w hp hq (by omega) (by omega)

end Go.Proofs.Ytmffkcbdgpaieaa
