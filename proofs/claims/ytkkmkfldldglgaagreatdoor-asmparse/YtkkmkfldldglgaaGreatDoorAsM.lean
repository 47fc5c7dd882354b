
/- Walks of lines and read (package asm). No statement of the seat is proved here. -/
import Derived.Test.YtkkmkfldldglgaaGreatDoorAsL
import Derived.Test.YtkkmkfldldglgaaGreatDoorAlM
import Derived.Lib.IndexLaws
namespace Go.Proofs.YtkkmkfldldglgaaGreatDoor
open Go.RowKit Go.Shelf
attribute [local go_sem] Oper.semAt_some

set_option maxRecDepth 100000 in
set_option maxHeartbeats 2000000 in
theorem lines1_in (n : Nat) (hn : 1 ≤ n) (l bx : Nat) (s : List UInt8) (hs : s.length ≤ 1073741824) (J Jx : List (List UInt8) → World → Prop) (W : World)
    (hY : ∀ pre x W1, J pre W1 → pre.length < (linesL s).length → (linesL s)[pre.length]? = some x → YieldAt Fence.wide (n - 1) Tryz.prog l #[.string ⟨x.toArray⟩] W1 fun e W' => (e = .returned (.bool true) ∧ J (pre ++ [x]) W') ∨ (e = .returned (.bool false) ∧ Jx (pre ++ [x]) W'))
    (hbx : W.heap[bx]? = some (.cells #[.string ⟨s.toArray⟩] 9 (0, 0))) (h0 : J [] W) :
    CallsIn Fence.wide n Tryz.prog 75 #[.func (.yield l) #[] #[], .pointer (some ⟨bx, 0, none⟩)] W fun e W' => (∃ v, e = .returned v) ∧ ((∃ xs, xs = linesL s ∧ J xs W') ∨ (∃ pre, True ∧ Jx pre W')) := by
  have b0 : W.cell? ⟨bx, 0, none⟩ = some (.string ⟨s.toArray⟩) := cell_of_block hbx 0
  refine callsIn_of_wp Tryz.func75 rfl trivial ?_ rfl
  simp only [Tryz.ntmps75, List.size_toArray, List.length_cons, List.length_nil, Nat.reduceAdd, Nat.reduceSub, Array.replicate_succ, Array.replicate_zero, List.push_toArray, List.append_toArray, List.nil_append, List.cons_append]
  gi_wp2_with fail
  clear hbx b0
  gi_loopw [3] (fun v wr => ∃ (m : List UInt8) (pre : List (List UInt8)), v = .string ⟨m.toArray⟩ ∧ J pre wr ∧ Hid (linesL s = pre ++ linesL m) ∧ m.length ≤ s.length) (fun v _ => lenOf v)
  case atStart => exact ⟨s, [], rfl, h0, by exact rfl, Nat.le_refl _⟩
  case round =>
    obtain ⟨m, pre, rfl, hJp, hlin, hml⟩ := hrel
    clear h0
    by_cases hm : m = []
    · subst hm
      have hfin : pre = linesL s := by have := hlin.out; simpa [linesL] using this.symm
      clear hlin hY
      gi_wp2
      go_end0
      exact ⟨⟨_, rfl⟩, .inl ⟨pre, hfin, hJp⟩⟩
    · have hemp : (ByteArray.toList ⟨m.toArray⟩ != []) = true := by simpa using hm
      have hemp2 : m.isEmpty = false := by cases m; exact absurd rfl hm; rfl
      have hpos := List.length_pos_iff.2 hm
      have hsz := size_of m
      have IB := ibyte_any m 10 wr
      rw [show ((10 : Int).toNat.toUInt8) = (10 : UInt8) from rfl] at IB
      have hge := Lib.indexByte_ge m 10
      rcases (by omega : Lib.indexByte m 10 = -1 ∨ 0 ≤ Lib.indexByte m 10) with hi | hi
      · obtain ⟨k, hk⟩ : ∃ k, k = m.length := ⟨_, rfl⟩
        have hcut : linesL m = m.take k :: linesL (m.drop k) := by
          subst hk
          rw [List.take_length, List.drop_length, linesL_one m hm (fun c hc e => ?_)]
          · rfl
          · subst e
            obtain ⟨j, hj, he⟩ := List.getElem_of_mem hc
            exact Lib.indexByte_none hi j (by rw [List.getElem?_eq_getElem hj, he])
        have e1 := extract_take m k
        have e2 := extract_drop m k
        rw [hi] at IB
        have hk1 : 1 ≤ k := by omega
        have hk2 : k ≤ m.length := by omega
        have hki : (k : Int) ≤ m.length := by omega
        have hki0 : (0 : Int) ≤ k := by omega
        have hlt : pre.length < (linesL s).length := by rw [hlin.out, hcut]; simp
        have hnx : (linesL s)[pre.length]? = some (m.take k) := by rw [hlin.out, hcut]; simp
        have hlin2 : Hid (linesL s = (pre ++ [m.take k]) ++ linesL (m.drop k)) := by
          have := hlin.out
          rw [hcut] at this
          rw [this]
          unfold Hid
          simp
        clear hcut
        have hkl : (k : Int) = m.length := by omega
        have hkm : (m.length : Int) = k := by omega
        have hkm2 : m.length = k := by omega
        rw [hkm2] at hsz e2
        clear hi hge hlin hml hkl hk hm
        gi_wp2_with fail
        refine ⟨trivial, (callsIn_wide.2 IB).mono ?_⟩
        rintro e wr' ⟨rfl, hwr⟩
        replace hwr := hwr.symm
        subst hwr
        obtain ⟨fn, tmps, assign, body, hy, hRR⟩ := hY pre (m.take k) wr hJp hlt hnx
        clear hY
        gi_wp2
        refine hRR.mono ?_
        rintro e W3 (⟨rfl, hJ3⟩ | ⟨rfl, hJx3⟩)
        · clear hy hRR
          gi_wp2
          go_roundw
          case rel => exact ⟨m.drop k, pre ++ [m.take k], by first | rfl | (rw [List.drop_eq_nil_of_le (by omega)]; rfl), hJ3, hlin2, by rw [List.length_drop]; omega⟩
          case measure => simp [lenOf, ByteArray.size]; omega
        · gi_wp2
          refine bodyPost_ret (results_none rfl _ _ _) rfl ?_
          exact ⟨⟨_, rfl⟩, .inr ⟨_, trivial, hJx3⟩⟩
      · obtain ⟨i, hii⟩ : ∃ i : Nat, Lib.indexByte m 10 = i := ⟨(Lib.indexByte m 10).toNat, by omega⟩
        obtain ⟨hat, hbef⟩ := Lib.indexByte_some hii
        have hil : i < m.length := (List.getElem?_eq_some_iff.1 hat).1
        obtain ⟨k, hk⟩ : ∃ k, k = i + 1 := ⟨_, rfl⟩
        have hcut : linesL m = m.take k :: linesL (m.drop k) := by
          subst hk
          refine linesL_cut m i hil (fun j hj e => ?_) ?_
          · exact hbef j hj (by rw [List.getElem?_eq_getElem (by omega), e])
          · rw [List.getElem?_eq_getElem hil] at hat; exact Option.some.inj hat
        have e1 := extract_take m k
        have e2 := extract_drop m k
        rw [hii] at IB
        have hk1 : 1 ≤ k := by omega
        have hk2 : k ≤ m.length := by omega
        have hki : (k : Int) ≤ m.length := by omega
        have hki0 : (0 : Int) ≤ k := by omega
        have hlt : pre.length < (linesL s).length := by rw [hlin.out, hcut]; simp
        have hnx : (linesL s)[pre.length]? = some (m.take k) := by rw [hlin.out, hcut]; simp
        have hlin2 : Hid (linesL s = (pre ++ [m.take k]) ++ linesL (m.drop k)) := by
          have := hlin.out
          rw [hcut] at this
          rw [this]
          unfold Hid
          simp
        clear hcut
        have hik : (i : Int) = (k : Int) - 1 := by omega
        rw [hik] at IB
        have hkz : ((k : Int) == 0) = false := by rw [beq_eq_false_iff_ne]; omega
        clear hi hii hge hlin hat hbef hil hik hk
        gi_wp2_with fail
        refine ⟨trivial, (callsIn_wide.2 IB).mono ?_⟩
        rintro e wr' ⟨rfl, hwr⟩
        replace hwr := hwr.symm
        subst hwr
        obtain ⟨fn, tmps, assign, body, hy, hRR⟩ := hY pre (m.take k) wr hJp hlt hnx
        clear hY
        gi_wp2
        refine hRR.mono ?_
        rintro e W3 (⟨rfl, hJ3⟩ | ⟨rfl, hJx3⟩)
        · clear hy hRR
          gi_wp2
          go_roundw
          case rel => exact ⟨m.drop k, pre ++ [m.take k], by first | rfl | (rw [List.drop_eq_nil_of_le (by omega)]; rfl), hJ3, hlin2, by rw [List.length_drop]; omega⟩
          case measure => simp [lenOf, ByteArray.size]; omega
        · gi_wp2
          refine bodyPost_ret (results_none rfl _ _ _) rfl ?_
          exact ⟨⟨_, rfl⟩, .inr ⟨_, trivial, hJx3⟩⟩

theorem lines_seq (n : Nat) (hn : 1 ≤ n) (bx : Nat) (s : List UInt8) (hs : s.length ≤ 1073741824) (w : World) (hbx : w.heap[bx]? = some (.cells #[.string ⟨s.toArray⟩] 9 (0, 0))) :
    SeqNext Fence.wide n Tryz.prog 75 #[.pointer (some ⟨bx, 0, none⟩)] (fun x : List UInt8 => #[.string ⟨x.toArray⟩]) (fun _ _ => True) (fun xs => xs = linesL s) (fun _ => True) (linesL s).length (fun pre x => (linesL s)[pre.length]? = some x) w :=
  fun l J Jx W hW _ _ hY h0 => lines1_in n hn l bx s hs J Jx W (fun pre x W1 h1 h2 h3 => by
    obtain ⟨fn, tmps, assign, body, hy, hRR⟩ := hY pre x W1 h1 h2 h3
    exact ⟨fn, tmps, assign, body, hy, hRR.mono (fun e W' h => h.imp (fun ⟨q1, q2, _⟩ => ⟨q1, q2⟩) (fun ⟨q1, q2, _⟩ => ⟨q1, q2⟩))⟩) ((hW.block _ (lt_of_block hbx)).trans hbx) h0

theorem lines_any (s : List UInt8) (w : World) : Calls Tryz.prog 55 #[.string ⟨s.toArray⟩] w fun e w' => e = .returned (.func (.func 75) #[] #[.pointer (some ⟨w.heap.size, 0, none⟩)]) ∧ w' = w.alloc (.cells #[.string ⟨s.toArray⟩] 9) := by
  go_enter Tryz.func55, Tryz.ntmps55
  go_wp2_with fail
  go_ret
  exact ⟨rfl, rfl⟩
end Go.Proofs.YtkkmkfldldglgaaGreatDoor
