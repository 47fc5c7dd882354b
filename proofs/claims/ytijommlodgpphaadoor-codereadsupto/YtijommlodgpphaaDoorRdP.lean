
/- Walk of the document's Read (package parleyref08). No statement of the seat is proved here. -/
import Derived.Test.YtijommlodgpphaaDoorRdJ
namespace Go.Proofs.YtijommlodgpphaaDoor
open Go.RowKit Go.Shelf

/-- What the document's Read answers. -/
def DRPost (l : List UInt8) (base : Nat) (e : Ending) (w' : World) : Prop := ((readL l).2.2 = true → ∃ v', e = .returned (.tuple #[v', .int .i64 (readL l).2.1, .bool true]) ∧ Irs w' base v' (readL l).1) ∧ ((readL l).2.2 = false → e = .returned (.tuple #[.slice none 0 0, .int .i64 (readL l).2.1, .bool false]))

set_option maxRecDepth 100000 in
set_option maxHeartbeats 4000000 in
theorem rread_any (v : Value) (l : List UInt8) (w : World) (h : BtAt w v l) (hb : (readL l).1.length * 40 ≤ 140737488355328) : Calls Tryd.prog 5 #[v] w fun e w' => DRPost l w.heap.size e w' ∧ Keeps (fun _ => False) w w' := by
  have HB : Hid (∀ X, Keeps (fun _ => False) w X → BtAt X v l) := fun X k => h.keeps k
  obtain ⟨⟨av, cap, rfl, hle, hc⟩, hbig⟩ := h
  have HC : Hid (0 < l.length → ∃ g off, av = some ⟨g, off, none⟩) := fun hl => by
    obtain ⟨g, off, e, _⟩ := hc 0 hl
    exact ⟨g, off, e⟩
  clear hc
  go_enter Tryd.func5, Tryd.ntmps5
  go_wp2_with fail
  go_loopw [5, 6] (fun u m wr => ∃ (L : List I5) (at' : Nat), m = .int .i64 at' ∧ at' ≤ l.length ∧ Hid (readL l = (L ++ (readL (l.drop at')).1, at' + (readL (l.drop at')).2.1, (readL (l.drop at')).2.2) ∧ Irs wr w.heap.size u L ∧ Keeps (fun _ => False) w wr)) (fun _ m _ => l.length - (intOf m).toNat)
  case atStart => exact ⟨[], 0, rfl, Nat.zero_le _, ⟨by simp, by simpa using Irs.nil w, Keeps.refl _ _⟩⟩
  case round =>
    obtain ⟨L, at', rfl, hat, hh⟩ := hrel
    by_cases hlt : at' < l.length
    · have hli : (at' : Int) < l.length := by omega
      obtain ⟨g, off, rfl⟩ := HC.out (by omega)
      obtain ⟨q1, q2, q3⟩ := hh.out
      have hci : (at' : Int) < cap := by omega
      obtain ⟨ch, tl, hct⟩ : ∃ c t, l.drop at' = c :: t := by
        cases hd : l.drop at' with
        | nil => have := congrArg List.length hd; rw [List.length_drop] at this; simp at this; omega
        | cons c t => exact ⟨c, t, rfl⟩
      have hlen1 : tl.length + 1 = l.length - at' := by have := congrArg List.length hct; rw [List.length_drop] at this; simp at this; omega
      have BD : BtAt wr (.slice (some ⟨g, off + at', none⟩) (tl.length + 1) (cap - at')) (ch :: tl) := by
        rw [← hct, hlen1]
        exact (HB.out wr q3).drop at' (by omega) _ (fun _ => rfl) _ _ rfl (by omega)
      have FA := rone_any g (off + at') (cap - at') ch tl wr BD
      rw [hlen1, ← hct] at FA
      have HCT : Hid (l.drop at' = ch :: tl) := hct
      clear BD hct hlen1
      obtain ⟨ub, uc, hu⟩ := q2.form
      subst hu
      clear q1 q2 q3
      go_wp2_with fail
      refine FA.mono ?_
      rintro e w1 ⟨hF, k1⟩
      unfold OPost at hF
      obtain ⟨q1, q2, q3⟩ := hh.out
      have hne : l.drop at' ≠ [] := by intro e; have := congrArg List.length e; rw [List.length_drop] at this; simp at this; omega
      cases hf : firstF (l.drop at') with
      | none =>
        rw [hf] at hF
        subst hF
        have hr := readL_none hne hf
        rw [hr] at q1
        dsimp only at q1
        have hP : DRPost l w.heap.size (.returned (.tuple #[.slice none 0 0, .int .i64 at', .bool false])) (w1.alloc (.cells #[.int .i64 0, .int .i64 0, .int .i64 0, .int .i64 0, .int .u64 0] 38)) := by
          unfold DRPost
          rw [q1]
          constructor
          · intro h; cases h
          · intro _; rfl
        have kz := (q3.trans k1).alloc (.cells #[.int .i64 0, .int .i64 0, .int .i64 0, .int .i64 0, .int .u64 0] 38)
        clear hh FA HB HC q1 q2 q3 k1 hr hb
        go_wp2_with fail
        refine bodyPost_ret (results_tmp3 rfl _ _ _) rfl ?_
        exact ⟨hP, kz⟩
      | some r =>
        obtain ⟨i, k⟩ := r
        rw [hf] at hF
        subst hF
        obtain ⟨f1, f2, f3, f4⟩ := firstF_facts hf
        rw [List.length_drop] at f4
        have hr := readL_some hf
        rw [List.drop_drop] at hr
        rw [hr] at q1
        dsimp only at q1
        have hL : (L.length + 1) * 40 ≤ 140737488355328 := by
          rw [q1] at hb
          simp only [List.length_append, List.length_cons] at hb
          omega
        have hk0 : ((k : Int) == 0) = false := by simp; omega
        obtain ⟨op, a, b, c, n⟩ := i
        have ka := (Keeps.refl (fun _ => False) w1).alloc (.cells #[.int .i64 op, .int .i64 a, .int .i64 b, .int .i64 c, .int .u64 n] 38)
        have k01 := k1.trans ka
        have q2' := q2.keeps k01 (fun _ _ f => f)
        have Q3 := q3.trans k01
        obtain ⟨v1, w2, r1, r2, r3⟩ := q2'.push2 ⟨op, a, b, c, n⟩ f2 hL
        rw [World.size_alloc] at r1
        have HR : Hid (_ = _) := r1
        have KK := Irs.kept r3 Q3 q2'
        have HN : Hid (readL l = ((L ++ [⟨op, a, b, c, n⟩]) ++ (readL (l.drop (at' + k))).1, (at' + k) + (readL (l.drop (at' + k))).2.1, (readL (l.drop (at' + k))).2.2)) := by
          show _ = _
          rw [q1]
          simp [Nat.add_assoc]
        clear hh FA HB HC q1 q2 q3 k1 hr hb r1 r3 ka k01 q2' Q3 hf f1 f2 hL hne
        dsimp only [I5.cells] at *
        go_wp2_with (at_builtin; refine wpList_append_run rfl _ _ 23 rfl rfl rfl HR.out ?_)
        go_roundw
        · exact ⟨L ++ [⟨op, a, b, c, n⟩], at' + k, by simp, by omega, ⟨HN.out, r2, KK⟩⟩
        · simp [intOf]; omega
    · have hli : ¬ (at' : Int) < l.length := by omega
      obtain rfl : at' = l.length := by omega
      obtain ⟨q1, q2, q3⟩ := hh.out
      rw [List.drop_length, readL_nil] at q1
      simp only [List.append_nil, Nat.add_zero] at q1
      clear hh HB HC
      go_wp2_with fail
      refine bodyPost_ret (results_tmp3 rfl _ _ _) rfl ?_
      refine ⟨?_, q3⟩
      unfold DRPost
      rw [q1]
      exact ⟨fun _ => ⟨_, rfl, q2⟩, fun h => by cases h⟩
end Go.Proofs.YtijommlodgpphaaDoor
