
/-
  The program's iterator over the entries, where the body may count on what comes next. No statement of the seat is proved here.
-/
import Derived.Test.YtbgnlenhncbceaaDoorLoopM
import Derived.Test.YtbgnlenhncbceaaDoorComingI
namespace Go.Proofs.YtbgnlenhncbceaaDoor.I
open Go.RowKit Go.Shelf
attribute [local go_sem] Oper.semAt_some

set_option maxRecDepth 100000 in
set_option maxHeartbeats 1000000 in
theorem coming1_next (n : Nat) (hn : 1 ≤ n) (l bx b s e0 m : Nat) (O : List Int) (bf : Int → Nat) (vf : Int → Value) (J Jx : List { q // q ∈ O } → World → Prop) (W : World)
    (hY : ∀ pre x W1, J pre W1 → pre.length < O.length → pre ++ [x] = firsts O (pre.length + 1) → YieldAt Fence.wide (n - 1) Tryd.prog l #[.pointer (some ⟨bf x.1, 0, none⟩)] W1 fun e W' =>
      (e = .returned (.bool true) ∧ J (pre ++ [x]) W' ∧ KeptOn (Walked bx b e0 O bf) W1 W') ∨ (e = .returned (.bool false) ∧ Jx (pre ++ [x]) W' ∧ HeldOn W.heap.size W1 W'))
    (hR : RingAt kinds W bx b s e0 m O bf vf) (h0 : J [] W) :
    CallsIn Fence.wide n Tryd.prog 69 #[.func (.yield l) #[] #[], .pointer (some ⟨bx, 0, none⟩)] W fun e W' => (∃ v, e = .returned v) ∧
      ((∃ ys, ys = firsts O O.length ∧ J ys W') ∨ (∃ pre, (∃ k, k < O.length ∧ pre = firsts O (k + 1)) ∧ Jx pre W')) := by
  obtain ⟨tb, fr, hbx⟩ := hR.box
  have b0 : W.cell? ⟨bx, 0, none⟩ = some (.pointer (some ⟨b, 0, none⟩)) := cell_of_block hbx 0
  have c0 : W.cell? ⟨b, 0, none⟩ = some (.slice (some ⟨s, 0, none⟩) m m) := cell_of_block hR.tab 0
  have c2 : W.cell? ⟨b, 2, none⟩ = some (.pointer (some ⟨e0, 0, none⟩)) := cell_of_block hR.tab 2
  have s3 : W.cell? ⟨e0, 3, none⟩ = some (.pointer (some ⟨node bf e0 O 1, 0, none⟩)) := cell_of_block hR.sent 3
  have hm := made_yes b s m hR.pos W c0
  clear c0 hbx
  refine callsIn_of_wp Tryd.func69 rfl trivial ?_ rfl
  simp only [Tryd.ntmps69, List.size_toArray, List.length_cons, List.length_nil, Nat.reduceAdd, Nat.reduceSub, Array.replicate_succ, Array.replicate_zero, List.push_toArray, List.append_toArray, List.nil_append, List.cons_append]
  gi_wp2_with (refine ⟨trivial, ?_⟩; gi_at_call 61; refine (callsIn_wide.2 hm).mono ?_; rintro e w1 ⟨rfl, rfl⟩)
  clear b0 c2 s3 hm
  gi_loopw [3] (fun v wr => ∃ i : Nat, i ≤ O.length ∧ v = .pointer (some ⟨node bf e0 O (i + 1), 0, none⟩) ∧ J (firsts O i) wr ∧ RingAt kinds wr bx b s e0 m O bf vf)
    (fun v _ => O.length - posOf bf e0 O v)
  case atStart => exact ⟨0, Nat.zero_le _, rfl, h0, hR⟩
  case round =>
    obtain ⟨i, hi, rfl, hJs, hR1⟩ := hrel
    clear hR h0
    obtain ⟨tb, fr, hbx⟩ := hR1.box
    have b0 : wr.cell? ⟨bx, 0, none⟩ = some (.pointer (some ⟨b, 0, none⟩)) := cell_of_block hbx 0
    have c2 : wr.cell? ⟨b, 2, none⟩ = some (.pointer (some ⟨e0, 0, none⟩)) := cell_of_block hR1.tab 2
    clear hbx
    by_cases hlt : i < O.length
    · obtain ⟨fn, tmps, assign, body, hy, hRR⟩ := hY _ ⟨oat O i, oat_mem hlt⟩ wr hJs (by rw [firsts_length hi]; exact hlt) (by rw [firsts_length hi]; exact (firsts_succ hlt).symm)
      have hpos := posOf_node hR1 hi 0
      rw [node_pos bf e0 O hlt] at hpos ⊢
      have hne : bf (oat O i) ≠ e0 := hR1.apart _ (oat_mem hlt)
      have hrun := neq_ends wr _ _ hne (hR1.ent i hlt) hR1.sent
      have hnext : node bf e0 O (i + 1 + 1) = node bf e0 O (i + 2) := rfl
      dsimp only at hy hRR
      generalize hB : bf (oat O i) = B at *
      have HB : Hid (bf (oat O i) = B) := hB
      clear hB hY
      gi_wp2
      refine hRR.mono ?_
      rintro e W3 (⟨rfl, hJ3, hk3⟩ | ⟨rfl, hJx3, _⟩)
      · have hR3 := hR1.kept hk3
        have c3 : W3.cell? ⟨B, 3, none⟩ = some (.pointer (some ⟨node bf e0 O (i + 1 + 1), 0, none⟩)) := by
          rw [← HB.out]
          exact cell_of_block (hR3.ent i hlt) 3
        clear hrun b0 c2
        gi_wp2
        go_roundw
        case rel => exact ⟨i + 1, by omega, rfl, by rw [firsts_succ hlt]; exact hJ3, hR3⟩
        case measure =>
          rw [posOf_node hR3 (by omega) 0, hpos]
          omega
      · gi_wp2
        go_end0
        exact ⟨⟨_, rfl⟩, .inr ⟨_, ⟨i, hlt, (firsts_succ hlt).symm⟩, hJx3⟩⟩
    · obtain rfl : i = O.length := by omega
      rw [node_end]
      have hrun := neq_same wr e0
      gi_wp2
      refine ⟨fun f hf => (by cases hf), ?_⟩
      gi_wp2
      go_end0
      exact ⟨⟨_, rfl⟩, .inl ⟨_, rfl, hJs⟩⟩

/-- The closure of coming as an iterator. -/
theorem coming_next (n : Nat) (hn : 1 ≤ n) (bx b s e0 m : Nat) (O : List Int) (bf : Int → Nat) (vf : Int → Value) (w : World) (hR : RingAt kinds w bx b s e0 m O bf vf) :
    SeqNext Fence.wide n Tryd.prog 69 #[.pointer (some ⟨bx, 0, none⟩)] (fun x : { q // q ∈ O } => #[.pointer (some ⟨bf x.1, 0, none⟩)]) (KeptOn (Walked bx b e0 O bf)) (fun ys => ys = firsts O O.length) (fun pre => ∃ k, k < O.length ∧ pre = firsts O (k + 1)) O.length (fun pre x => pre ++ [x] = firsts O (pre.length + 1)) w :=
  fun l J Jx W hW _ _ hY h0 => coming1_next n hn l bx b s e0 m O bf vf J Jx W hY (hR.below hW) h0

end Go.Proofs.YtbgnlenhncbceaaDoor.I
