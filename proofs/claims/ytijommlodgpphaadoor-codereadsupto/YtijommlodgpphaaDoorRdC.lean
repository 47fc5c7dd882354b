
/- Walks of Read (package code). No statement of the seat is proved here. -/
import Derived.Test.YtijommlodgpphaaDoorRdB
import Derived.Test.YtijommlodgpphaaDoorIrC
import Derived.OwnWalk
namespace Go.Proofs.YtijommlodgpphaaDoor
open Go.RowKit Go.Shelf

theorem whs_facts : ∀ (k : Nat) (l : List UInt8) (N : List Int) (u : Nat), whs k l = some (N, u) → N.length = k ∧ (∀ x ∈ N, 0 ≤ x ∧ x < 18446744073709551616) ∧ u ≤ l.length
  | 0, l, N, u, h => by
    simp only [whs, Option.some.injEq, Prod.mk.injEq] at h
    obtain ⟨rfl, rfl⟩ := h
    simp
  | k + 1, l, N, u, h => by
    cases hg : whG 0 0 l with
    | none => rw [whs_zero hg] at h; cases h
    | some ns =>
      obtain ⟨n, s⟩ := ns
      rw [whs_one hg] at h
      cases hw : whs k (l.drop s) with
      | none => rw [hw] at h; cases h
      | some r =>
        obtain ⟨N', u'⟩ := r
        rw [hw] at h
        simp only [Option.map_some, Option.some.injEq, Prod.mk.injEq] at h
        obtain ⟨rfl, rfl⟩ := h
        obtain ⟨h1, h2, h3⟩ := whs_facts k _ N' u' hw
        have hb := whG_some l 0 0 n s (by omega) (by simp) hg
        rw [List.length_drop] at h3
        refine ⟨by simp [h1], fun x hx => ?_, by omega⟩
        rcases List.mem_cons.1 hx with rfl | hx
        · omega
        · exact h2 x hx
theorem shapes {op : Int} (h0 : 1 ≤ op) (h1 : op ≤ 17) : (regsN op = 0 ∧ numB op = false) ∨ (regsN op = 0 ∧ numB op = true) ∨ (regsN op = 1 ∧ numB op = true) ∨ (regsN op = 2 ∧ numB op = false) ∨ (regsN op = 3 ∧ numB op = false) := by
  rcases op17 h0 h1 with rfl | rfl | rfl | rfl | rfl | rfl | rfl | rfl | rfl | rfl | rfl | rfl | rfl | rfl | rfl | rfl | rfl <;> decide
theorem insOf_formed {op : Int} (h0 : 1 ≤ op) (h1 : op ≤ 17) {N : List Int} (hN : N.length = partsN op) (hb : ∀ x ∈ N, 0 ≤ x ∧ x < 18446744073709551616) (hr : regOk op N = true) : formedB (insOf op N) = true ∧ (insOf op N).wf ∧ numL (insOf op N) = N := by
  unfold partsN at hN
  rcases shapes h0 h1 with ⟨e1, e2⟩ | ⟨e1, e2⟩ | ⟨e1, e2⟩ | ⟨e1, e2⟩ | ⟨e1, e2⟩
  all_goals rw [e1, e2] at hN
  · obtain rfl : N = [] := by simpa using hN
    simp [formedB, insOf, okR, I5.wf, e1, e2, numL, num3, partsN]; omega
  · obtain ⟨x, rfl⟩ : ∃ x, N = [x] := List.length_eq_one_iff.1 (by simpa using hN)
    have hx := hb x (by simp)
    simp [formedB, insOf, okR, I5.wf, e1, e2, numL, num3, partsN]; omega
  · obtain ⟨x, y, rfl⟩ := len_two (by simpa using hN)
    have hx := hb x (by simp)
    have hy := hb y (by simp)
    simp [regOk, e1] at hr
    simp [formedB, insOf, okR, I5.wf, e1, e2, numL, num3, partsN]; omega
  · obtain ⟨x, y, rfl⟩ := len_two (by simpa using hN)
    have hx := hb x (by simp)
    have hy := hb y (by simp)
    simp [regOk, e1] at hr
    simp [formedB, insOf, okR, I5.wf, e1, e2, numL, num3, partsN]; omega
  · obtain ⟨x, y, z, rfl⟩ := len_three (by simpa using hN)
    have hx := hb x (by simp)
    have hy := hb y (by simp)
    have hz := hb z (by simp)
    simp [regOk, e1] at hr
    simp [formedB, insOf, okR, I5.wf, e1, e2, numL, num3, partsN]; omega
theorem firstF_facts {l : List UInt8} {i : I5} {k : Nat} (h : firstF l = some (i, k)) : formedB i = true ∧ i.wf ∧ 1 ≤ k ∧ k ≤ l.length := by
  cases l with
  | nil => cases h
  | cons c t =>
    rw [firstF] at h
    split at h
    · rename_i hk
      cases hw : whs (partsN c.toNat) t with
      | none => rw [hw] at h; cases h
      | some r =>
        obtain ⟨N, u⟩ := r
        rw [hw] at h
        dsimp only at h
        split at h
        · rename_i hr
          simp only [Option.some.injEq, Prod.mk.injEq] at h
          obtain ⟨rfl, rfl⟩ := h
          obtain ⟨h1, h2, h3⟩ := whs_facts _ _ _ _ hw
          obtain ⟨f1, f2, _⟩ := insOf_formed (op := c.toNat) (by omega) (by omega) h1 h2 hr
          exact ⟨f1, f2, by omega, by simp; omega⟩
        · cases h
    · cases h
/-- The instructions that bytes are, up to the first that is not there: how many bytes they have, and whether these are all. -/
def readG : Nat → List UInt8 → List I5 × Nat × Bool
  | 0, _ => ([], 0, true)
  | f + 1, l => if l = [] then ([], 0, true) else match firstF l with
    | none => ([], 0, false)
    | some (i, k) => (i :: (readG f (l.drop k)).1, k + (readG f (l.drop k)).2.1, (readG f (l.drop k)).2.2)
theorem readG_nil (f : Nat) : readG f [] = ([], 0, true) := by cases f <;> simp [readG]
theorem readG_fuel : ∀ (f f' : Nat) (l : List UInt8), l.length ≤ f → l.length ≤ f' → readG f l = readG f' l
  | 0, f', l, h, _ => by
    obtain rfl : l = [] := List.length_eq_zero_iff.1 (by omega)
    rw [readG_nil, readG_nil]
  | f + 1, 0, l, _, h => by
    obtain rfl : l = [] := List.length_eq_zero_iff.1 (by omega)
    rw [readG_nil, readG_nil]
  | f + 1, f' + 1, l, h, h' => by
    rw [readG, readG]
    split
    · rfl
    · cases hf : firstF l with
      | none => rfl
      | some r =>
        obtain ⟨i, k⟩ := r
        obtain ⟨_, _, h1, h2⟩ := firstF_facts hf
        dsimp only
        rw [readG_fuel f f' (l.drop k) (by rw [List.length_drop]; omega) (by rw [List.length_drop]; omega)]
/-- The same with as many steps as there are bytes. -/
def readL (l : List UInt8) : List I5 × Nat × Bool := readG l.length l
theorem readL_nil : readL [] = ([], 0, true) := rfl
theorem readL_none {l : List UInt8} (hne : l ≠ []) (h : firstF l = none) : readL l = ([], 0, false) := by
  cases l with
  | nil => exact absurd rfl hne
  | cons c t => rw [readL, List.length_cons, readG, if_neg hne, h]
theorem readL_some {l : List UInt8} {i : I5} {k : Nat} (h : firstF l = some (i, k)) : readL l = (i :: (readL (l.drop k)).1, k + (readL (l.drop k)).2.1, (readL (l.drop k)).2.2) := by
  obtain ⟨_, _, h1, h2⟩ := firstF_facts h
  cases l with
  | nil => cases h
  | cons c t =>
    rw [readL, List.length_cons, readG, if_neg (by simp), h]
    dsimp only
    rw [readG_fuel t.length ((c :: t).drop k).length _ (by rw [List.length_drop, List.length_cons]; omega) (Nat.le_refl _)]
    rfl

theorem Irs.push2 {w : World} {base : Nat} {v : Value} {L : List I5} (h : Irs w base v L) (i : I5) (hi : i.wf) (hb : (L.length + 1) * 40 ≤ 140737488355328) :
    ∃ v' w', (Builtin.append_ #[23, 23] 23 #[v, .slice (some ⟨w.heap.size, 0, none⟩) 1 1]).run Tryd.prog (w.alloc (.cells #[.int .i64 i.op, .int .i64 i.a, .int .i64 i.b, .int .i64 i.c, .int .u64 i.n] 38)) = .ok v' w' ∧ Irs w' base v' (L ++ [i]) ∧ Grew w w' v v' := by
  have k0 := (Keeps.refl (fun _ => False) w).alloc (.cells #[.int .i64 i.op, .int .i64 i.a, .int .i64 i.b, .int .i64 i.c, .int .u64 i.n] 38)
  have b0 := (MapKept.heap_alloc w (.cells #[.int .i64 i.op, .int .i64 i.a, .int .i64 i.b, .int .i64 i.c, .int .u64 i.n] 38)).1
  have IB : InsAt (w.alloc (.cells #[.int .i64 i.op, .int .i64 i.a, .int .i64 i.b, .int .i64 i.c, .int .u64 i.n] 38)) (.slice (some ⟨w.heap.size, 0, none⟩) 1 1) [i] := by
    refine ⟨⟨_, 1, rfl, fun k hk => ⟨_, 0, rfl, ?_⟩⟩, by simpa using hi, by simp⟩
    obtain rfl : k = 0 := by simp at hk; omega
    refine ⟨?_, ?_, ?_, ?_, ?_⟩ <;> (rw [cell_of_block b0]; rfl)
  obtain ⟨v', w', h1, h2, h3⟩ := (h.keeps k0 (fun _ _ f => f)).app _ [i] IB (by simpa using hb)
  exact ⟨v', w', h1, h2, Grew.ahead k0 h3⟩

/-- What Read answers. -/
def RPost (l : List UInt8) (base : Nat) (e : Ending) (w' : World) : Prop := ((readL l).2.2 = true → ∃ v', e = .returned (.tuple #[v', .int .i64 (readL l).2.1, .int .i64 0]) ∧ Irs w' base v' (readL l).1) ∧ ((readL l).2.2 = false → e = .returned (.tuple #[.slice none 0 0, .int .i64 (readL l).2.1, .int .i64 180]))

set_option maxRecDepth 100000 in
set_option maxHeartbeats 4000000 in
theorem read_any (v : Value) (l : List UInt8) (w : World) (h : BtAt w v l) (hb : (readL l).1.length * 40 ≤ 140737488355328) : Calls Tryd.prog 4 #[v] w fun e w' => RPost l w.heap.size e w' ∧ Keeps (fun _ => False) w w' := by
  have HB : Hid (∀ X, Keeps (fun _ => False) w X → BtAt X v l) := fun X k => h.keeps k
  obtain ⟨⟨av, cap, rfl, hle, hc⟩, hbig⟩ := h
  have HC : Hid (0 < l.length → ∃ g off, av = some ⟨g, off, none⟩) := fun hl => by
    obtain ⟨g, off, e, _⟩ := hc 0 hl
    exact ⟨g, off, e⟩
  clear hc
  go_enter Tryd.func4, Tryd.ntmps4
  go_wp2_with fail
  go_loopw [5, 6] (fun u m wr => ∃ (L : List I5) (at' : Nat), m = .int .i64 at' ∧ at' ≤ l.length ∧ Hid (readL l = (L ++ (readL (l.drop at')).1, at' + (readL (l.drop at')).2.1, (readL (l.drop at')).2.2) ∧ Irs wr w.heap.size u L ∧ Keeps (fun _ => False) w wr)) (fun _ m _ => l.length - (intOf m).toNat)
  case atStart => exact ⟨[], 0, rfl, Nat.zero_le _, ⟨by simp, by simpa using Irs.nil w, Keeps.refl _ _⟩⟩
  case round =>
    obtain ⟨L, at', rfl, hat, hh⟩ := hrel
    by_cases hlt : at' < l.length
    · have hli : (at' : Int) < l.length := by omega
      obtain ⟨g, off, rfl⟩ := HC.out (by omega)
      obtain ⟨q1, q2, q3⟩ := hh.out
      have hci : (at' : Int) < cap := by omega
      have FA := first_any g (off + at') (cap - at') (l.drop at') wr (by rw [List.length_drop]; exact (HB.out wr q3).drop at' (by omega) _ (fun _ => rfl) _ _ rfl (by omega)) (by intro e; have := congrArg List.length e; rw [List.length_drop] at this; simp at this; omega)
      rw [List.length_drop] at FA
      obtain ⟨ub, uc, hu⟩ := q2.form
      subst hu
      clear q1 q2 q3
      go_wp2_with fail
      refine FA.mono ?_
      rintro e w1 ⟨hF, k1⟩
      unfold FPost at hF
      obtain ⟨q1, q2, q3⟩ := hh.out
      have hne : l.drop at' ≠ [] := by intro e; have := congrArg List.length e; rw [List.length_drop] at this; simp at this; omega
      cases hf : firstF (l.drop at') with
      | none =>
        rw [hf] at hF
        subst hF
        have hr := readL_none hne hf
        rw [hr] at q1
        dsimp only at q1
        have hP : RPost l w.heap.size (.returned (.tuple #[.slice none 0 0, .int .i64 at', .int .i64 180])) (w1.alloc (.cells #[.int .i64 0, .int .i64 0, .int .i64 0, .int .i64 0, .int .u64 0] 38)) := by
          unfold RPost
          rw [q1]
          constructor
          · intro h; cases h
          · intro _; rfl
        have kz := (q3.trans k1).alloc (.cells #[.int .i64 0, .int .i64 0, .int .i64 0, .int .i64 0, .int .u64 0] 38)
        clear hh FA HB HC q1 q2 q3 k1 hr hb
        go_wp2_with fail
        refine bodyPost_ret (results_tmp3 rfl _ _ _) rfl ?_
        exact ⟨hP, kz⟩
      | some r =>
        obtain ⟨i, k⟩ := r
        rw [hf] at hF
        subst hF
        obtain ⟨f1, f2, f3, f4⟩ := firstF_facts hf
        rw [List.length_drop] at f4
        have hr := readL_some hf
        rw [List.drop_drop] at hr
        rw [hr] at q1
        dsimp only at q1
        have hL : (L.length + 1) * 40 ≤ 140737488355328 := by
          rw [q1] at hb
          simp only [List.length_append, List.length_cons] at hb
          omega
        have hk0 : ((k : Int) == 0) = false := by simp; omega
        obtain ⟨op, a, b, c, n⟩ := i
        have ka := (Keeps.refl (fun _ => False) w1).alloc (.cells #[.int .i64 op, .int .i64 a, .int .i64 b, .int .i64 c, .int .u64 n] 38)
        have k01 := k1.trans ka
        have q2' := q2.keeps k01 (fun _ _ f => f)
        have Q3 := q3.trans k01
        obtain ⟨v1, w2, r1, r2, r3⟩ := q2'.push2 ⟨op, a, b, c, n⟩ f2 hL
        rw [World.size_alloc] at r1
        have HR : Hid (_ = _) := r1
        have KK := Irs.kept r3 Q3 q2'
        have HN : Hid (readL l = ((L ++ [⟨op, a, b, c, n⟩]) ++ (readL (l.drop (at' + k))).1, (at' + k) + (readL (l.drop (at' + k))).2.1, (readL (l.drop (at' + k))).2.2)) := by
          show _ = _
          rw [q1]
          simp [Nat.add_assoc]
        clear hh FA HB HC q1 q2 q3 k1 hr hb r1 r3 ka k01 q2' Q3 hf f1 f2 hL hne
        dsimp only [I5.cells] at *
        go_wp2_with (at_builtin; refine wpList_append_run rfl _ _ 23 rfl rfl rfl HR.out ?_)
        go_roundw
        · exact ⟨L ++ [⟨op, a, b, c, n⟩], at' + k, by simp, by omega, ⟨HN.out, r2, KK⟩⟩
        · simp [intOf]; omega
    · have hli : ¬ (at' : Int) < l.length := by omega
      obtain rfl : at' = l.length := by omega
      obtain ⟨q1, q2, q3⟩ := hh.out
      rw [List.drop_length, readL_nil] at q1
      simp only [List.append_nil, Nat.add_zero] at q1
      clear hh HB HC
      go_wp2_with fail
      refine bodyPost_ret (results_tmp3 rfl _ _ _) rfl ?_
      refine ⟨?_, q3⟩
      unfold RPost
      rw [q1]
      exact ⟨fun _ => ⟨_, rfl, q2⟩, fun h => by cases h⟩
end Go.Proofs.YtijommlodgpphaaDoor
