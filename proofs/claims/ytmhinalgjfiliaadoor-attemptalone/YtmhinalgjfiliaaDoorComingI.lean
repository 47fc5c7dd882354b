
/-
  The program's iterator over the entries of a table (coming and its closure): what it hands on, round by round. No statement of the seat is proved here.
-/
import Derived.Test.YtmhinalgjfiliaaDoorRing
import Derived.Test.YtmhinalgjfiliaaDoorFindI
import Derived.Test.YtmhinalgjfiliaaDoorPutI
namespace Go.Proofs.YtmhinalgjfiliaaDoor.I
open Go.RowKit Go.Shelf
attribute [local go_sem] Oper.semAt_some

set_option maxHeartbeats 400000 in
theorem coming_any (p : Option Addr) (w : World) : Calls Tryd.prog 83 #[.pointer p] w fun e w' => e = .returned (.func (.func 88) #[] #[.pointer (some ⟨w.heap.size, 0, none⟩)]) ∧ w' = w.alloc (.cells #[.pointer p] 103) := by
  go_enter Tryd.func83, Tryd.ntmps83
  go_wp2
  go_ret
  exact ⟨rfl, rfl⟩

theorem info_ent : (Tryd.prog.info? 131).map (·.size) = some 4 := by kernel_rfl
theorem neq_ends (w : World) (x e0 : Nat) {ca cb : Array Value} {ta tb : TypeId} (hne : x ≠ e0) (ha : w.heap[x]? = some (.cells ca ta (0, 0))) (hb : w.heap[e0]? = some (.cells cb tb (0, 0))) :
    (binOp .neq 126 (.pointer (some ⟨x, 0, none⟩)) (.pointer (some ⟨e0, 0, none⟩))).run Tryd.prog w = .ok (.bool true) w := by
  obtain ⟨j, hj, hs⟩ := Option.map_eq_some_iff.1 info_ent
  exact run_neq_other w Tryd.underlying126 hj (by rw [hs]; decide) (fun e => hne (congrArg Addr.block e)) ha hb
theorem neq_same (w : World) (e0 : Nat) : (binOp .neq 126 (.pointer (some ⟨e0, 0, none⟩)) (.pointer (some ⟨e0, 0, none⟩))).run Tryd.prog w = .ok (.bool false) w := by
  obtain ⟨j, hj, _⟩ := Option.map_eq_some_iff.1 info_ent
  exact run_neq_same w _ Tryd.underlying126 hj

set_option maxRecDepth 100000 in
set_option maxHeartbeats 1000000 in
theorem coming1_in (n : Nat) (hn : 1 ≤ n) (l bx b s e0 m : Nat) (O : List Int) (bf : Int → Nat) (vf : Int → Value) (J Jx : List { q // q ∈ O } → World → Prop) (W : World)
    (hY : ∀ pre x W1, J pre W1 → pre.length < O.length → YieldAt Fence.wide (n - 1) Tryd.prog l #[.pointer (some ⟨bf x.1, 0, none⟩)] W1 fun e W' =>
      (e = .returned (.bool true) ∧ J (pre ++ [x]) W' ∧ KeptOn (Walked bx b e0 O bf) W1 W') ∨ (e = .returned (.bool false) ∧ Jx (pre ++ [x]) W'))
    (hR : RingAt kinds W bx b s e0 m O bf vf) (h0 : J [] W) :
    CallsIn Fence.wide n Tryd.prog 88 #[.func (.yield l) #[] #[], .pointer (some ⟨bx, 0, none⟩)] W fun e W' => (∃ v, e = .returned v) ∧
      ((∃ ys, ys = firsts O O.length ∧ J ys W') ∨ (∃ pre, (∃ k, k < O.length ∧ pre = firsts O (k + 1)) ∧ Jx pre W')) := by
  obtain ⟨tb, fr, hbx⟩ := hR.box
  have b0 : W.cell? ⟨bx, 0, none⟩ = some (.pointer (some ⟨b, 0, none⟩)) := cell_of_block hbx 0
  have c0 : W.cell? ⟨b, 0, none⟩ = some (.slice (some ⟨s, 0, none⟩) m m) := cell_of_block hR.tab 0
  have c2 : W.cell? ⟨b, 2, none⟩ = some (.pointer (some ⟨e0, 0, none⟩)) := cell_of_block hR.tab 2
  have s3 : W.cell? ⟨e0, 3, none⟩ = some (.pointer (some ⟨node bf e0 O 1, 0, none⟩)) := cell_of_block hR.sent 3
  have hm := made_yes b s m hR.pos W c0
  clear c0 hbx
  refine callsIn_of_wp Tryd.func88 rfl trivial ?_ rfl
  simp only [Tryd.ntmps88, List.size_toArray, List.length_cons, List.length_nil, Nat.reduceAdd, Nat.reduceSub, Array.replicate_succ, Array.replicate_zero, List.push_toArray, List.append_toArray, List.nil_append, List.cons_append]
  gi_wp2_with (refine ⟨trivial, ?_⟩; gi_at_call 69; refine (callsIn_wide.2 hm).mono ?_; rintro e w1 ⟨rfl, rfl⟩)
  clear b0 c2 s3 hm
  gi_loopw [3] (fun v wr => ∃ i : Nat, i ≤ O.length ∧ v = .pointer (some ⟨node bf e0 O (i + 1), 0, none⟩) ∧ J (firsts O i) wr ∧ RingAt kinds wr bx b s e0 m O bf vf)
    (fun v _ => O.length - posOf bf e0 O v)
  case atStart => exact ⟨0, Nat.zero_le _, rfl, h0, hR⟩
  case round =>
    obtain ⟨i, hi, rfl, hJs, hR1⟩ := hrel
    clear hR h0
    obtain ⟨tb, fr, hbx⟩ := hR1.box
    have b0 : wr.cell? ⟨bx, 0, none⟩ = some (.pointer (some ⟨b, 0, none⟩)) := cell_of_block hbx 0
    have c2 : wr.cell? ⟨b, 2, none⟩ = some (.pointer (some ⟨e0, 0, none⟩)) := cell_of_block hR1.tab 2
    clear hbx
    by_cases hlt : i < O.length
    · obtain ⟨fn, tmps, assign, body, hy, hRR⟩ := hY _ ⟨oat O i, oat_mem hlt⟩ wr hJs (by rw [firsts_length hi]; exact hlt)
      have hpos := posOf_node hR1 hi 0
      rw [node_pos bf e0 O hlt] at hpos ⊢
      have hne : bf (oat O i) ≠ e0 := hR1.apart _ (oat_mem hlt)
      have hrun := neq_ends wr _ _ hne (hR1.ent i hlt) hR1.sent
      have hnext : node bf e0 O (i + 1 + 1) = node bf e0 O (i + 2) := rfl
      dsimp only at hy hRR
      generalize hB : bf (oat O i) = B at *
      have HB : Hid (bf (oat O i) = B) := hB
      clear hB hY
      gi_wp2
      refine hRR.mono ?_
      rintro e W3 (⟨rfl, hJ3, hk3⟩ | ⟨rfl, hJx3⟩)
      · have hR3 := hR1.kept hk3
        have c3 : W3.cell? ⟨B, 3, none⟩ = some (.pointer (some ⟨node bf e0 O (i + 1 + 1), 0, none⟩)) := by
          rw [← HB.out]
          exact cell_of_block (hR3.ent i hlt) 3
        clear hrun b0 c2
        gi_wp2
        go_roundw
        case rel => exact ⟨i + 1, by omega, rfl, by rw [firsts_succ hlt]; exact hJ3, hR3⟩
        case measure =>
          rw [posOf_node hR3 (by omega) 0, hpos]
          omega
      · gi_wp2
        go_end0
        exact ⟨⟨_, rfl⟩, .inr ⟨_, ⟨i, hlt, (firsts_succ hlt).symm⟩, hJx3⟩⟩
    · obtain rfl : i = O.length := by omega
      rw [node_end]
      have hrun := neq_same wr e0
      gi_wp2
      refine ⟨fun f hf => (by cases hf), ?_⟩
      gi_wp2
      go_end0
      exact ⟨⟨_, rfl⟩, .inl ⟨_, rfl, hJs⟩⟩

/-- The closure of coming as an iterator. -/
theorem coming_stops (n : Nat) (hn : 1 ≤ n) (bx b s e0 m : Nat) (O : List Int) (bf : Int → Nat) (vf : Int → Value) (w : World) (hR : RingAt kinds w bx b s e0 m O bf vf) :
    SeqStopsK Fence.wide n Tryd.prog 88 #[.pointer (some ⟨bx, 0, none⟩)] (fun x : { q // q ∈ O } => #[.pointer (some ⟨bf x.1, 0, none⟩)]) (KeptOn (Walked bx b e0 O bf)) (fun ys => ys = firsts O O.length) (fun pre => ∃ k, k < O.length ∧ pre = firsts O (k + 1)) O.length w :=
  fun l J Jx W hW _ _ hY h0 => coming1_in n hn l bx b s e0 m O bf vf J Jx W hY (hR.below hW) h0

/-- A table that is not there: nil, or a zero one. -/
def NoTab (w : World) (p : Option Addr) : Prop := p = none ∨ ∃ b, p = some ⟨b, 0, none⟩ ∧ w.cell? ⟨b, 0, none⟩ = some (.slice none 0 0) ∧ w.cell? ⟨b, 1, none⟩ = some (.int .i64 0)
theorem NoTab.below {w w' : World} {p : Option Addr} (h : NoTab w p) (hb : Below w.heap.size w w') : NoTab w' p := by
  rcases h with rfl | ⟨b, rfl, h0, h1⟩
  · exact .inl rfl
  · exact .inr ⟨b, rfl, (hb.cell (p := ⟨b, 0, none⟩) (World.block_lt_of_cell? _ _ h0)).trans h0, (hb.cell (p := ⟨b, 1, none⟩) (World.block_lt_of_cell? _ _ h1)).trans h1⟩
theorem made_no (p : Option Addr) (w : World) (h : NoTab w p) : Calls Tryd.prog 69 #[.pointer p] w fun e w' => e = .returned (.bool false) ∧ w' = w := by
  rcases h with rfl | ⟨b, rfl, h0, _⟩
  · exact made_nil w
  · exact made_at b none 0 0 w h0
theorem slots_no (p : Option Addr) (w : World) (h : NoTab w p) : Calls Tryd.prog 80 #[.pointer p] w fun e w' => e = .returned (.int .i64 0) ∧ w' = w := by
  rcases h with rfl | ⟨b, rfl, h0, _⟩
  · exact slots_nil w
  · exact slots_at b none 0 0 w h0

set_option maxRecDepth 100000 in
set_option maxHeartbeats 1000000 in
theorem coming1_no (n : Nat) (hn : 1 ≤ n) (l bx : Nat) (p : Option Addr) (W : World) (hb : W.cell? ⟨bx, 0, none⟩ = some (.pointer p)) (hN : NoTab W p) :
    CallsIn Fence.wide n Tryd.prog 88 #[.func (.yield l) #[] #[], .pointer (some ⟨bx, 0, none⟩)] W fun e W' => (∃ v, e = .returned v) ∧ W' = W := by
  have hm := made_no p W hN
  refine callsIn_of_wp Tryd.func88 rfl trivial ?_ rfl
  simp only [Tryd.ntmps88, List.size_toArray, List.length_cons, List.length_nil, Nat.reduceAdd, Nat.reduceSub, Array.replicate_succ, Array.replicate_zero, List.push_toArray, List.append_toArray, List.nil_append, List.cons_append]
  gi_wp2_with (refine ⟨trivial, ?_⟩; gi_at_call 69; refine (callsIn_wide.2 hm).mono ?_; rintro e w1 ⟨rfl, rfl⟩)
  refine bodyPost_ret (results_none rfl _ _ _) rfl ?_
  exact ⟨⟨_, rfl⟩, rfl⟩
theorem coming_no (n : Nat) (hn : 1 ≤ n) (bx : Nat) (p : Option Addr) (w : World) (hb : w.cell? ⟨bx, 0, none⟩ = some (.pointer p)) (hN : NoTab w p) :
    SeqStopsK Fence.wide n Tryd.prog 88 #[.pointer (some ⟨bx, 0, none⟩)] (fun _ : Unit => #[.pointer none]) (fun _ _ => True) (fun ys => ys = []) (fun _ => False) 0 w :=
  fun l _ _ W hW _ _ _ h0 => (coming1_no n hn l bx p W ((hW.cell (p := ⟨bx, 0, none⟩) (World.block_lt_of_cell? _ _ hb)).trans hb) (hN.below hW)).mono fun _ _ ⟨h1, h2⟩ => ⟨h1, .inl ⟨[], rfl, h2 ▸ h0⟩⟩
end Go.Proofs.YtmhinalgjfiliaaDoor.I
