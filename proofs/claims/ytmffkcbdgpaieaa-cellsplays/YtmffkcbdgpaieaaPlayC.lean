/-
  Walks of the law's spoil and left. No statement of the seat is proved here.
-/
import Derived.Test.YtmffkcbdgpaieaaPlayB
namespace Go.Proofs.Ytmffkcbdgpaieaa
open Go.RowKit

/-- So many cells of 99. -/
def nines (n : Nat) : List Value := (u64s (List.replicate n 99)).toList
theorem nines_len (n : Nat) : (nines n).length = n := by simp [nines, u64s]
theorem nines_succ (n : Nat) : nines n ++ [.int .u64 99] = nines (n + 1) := by simp [nines, u64s, List.replicate_succ']
theorem nines_get (n i : Nat) (h : i < n) : (nines n)[i]? = some (.int .u64 99) := by simp [nines, u64s, h]

/-- A slice of 99s that is full, or that is the call's own. -/
def Nines (w : World) (base : Nat) (v : Value) (n : Nat) : Prop :=
  (∃ sp, v = .slice sp n n ∧ ∀ i, i < n → ∃ g, sp = some ⟨g, 0, none⟩ ∧ w.cell? ⟨g, i, none⟩ = some (.int .u64 99)) ∨ w.ownsRow base 36 1 v n (nines n)

theorem append_nine (w : World) (base : Nat) (v : Value) (n : Nat) (h : Nines w base v n) (a : Addr) (ha : w.cell? (a.add 0) = some (.int .u64 99)) (hb : (n + 1) * 8 ≤ 140737488355328) (hbase : base ≤ w.heap.size) :
    ∃ v' w', (Builtin.append_ #[22, 22] 22 #[v, .slice (some a) 1 1]).run Try.prog w = .ok v' w' ∧ w'.ownsRow base 36 1 v' (n + 1) (nines (n + 1)) ∧ ∃ r, w.grownBy w' r ∧ ∀ k, r = some k → base ≤ k := by
  obtain ⟨i0, hi, hz0, hz1, hz2⟩ := info_parts info36
  have hnews : ∀ (j : Nat) (u : Value), [Value.int .u64 99][j]? = some u → w.cell? (a.add j) = some u := fun j u hj => by
    cases j with
    | zero => rw [ha]; simpa using hj
    | succ j => simp at hj
  rcases h with ⟨sp, rfl, hs⟩ | hown
  · have hold : (Builtin.firstCells i0.size n (.slice sp n n)).run Try.prog w.drew = .ok (nines n).toArray w.drew := by
      cases sp with
      | none =>
        have : n = 0 := by
          rcases Nat.eq_zero_or_pos n with h | h
          · exact h
          · obtain ⟨g, hg, _⟩ := hs 0 h
            cases hg
        subst this
        rw [run_firstCells_none]
        rfl
      | some b =>
        refine run_firstCells_some _ _ _ _ _ _ _ (by rw [nines_len, hz1, Nat.mul_one]) (fun j u hj => ?_)
        have hj' : j < n := by
          have := (List.getElem?_eq_some_iff.1 hj).1
          rwa [nines_len] at this
        obtain ⟨g, hg, hc⟩ := hs j hj'
        cases hg
        rw [addr_add, Nat.zero_add]
        rw [nines_get n j hj'] at hj
        exact hc.trans hj
    have hsrc : Src Try.prog i0.size 22 (.slice (some a) 1 1) 1 [.int .u64 99] w := Src.ofSlice w (e' := 36) Try.underlying22 a 1 1 _ (by rw [hz1]; rfl) hnews (by simp [Value.oneCell'])
    have hrun := run_append_grow_src (P := Try.prog) w 22 22 22 36 i0 (.int .u64 0) Try.underlying22 hi hz0 sp n n (nines n) hold _ 1 _ hsrc (by omega) (by omega) (growslice_fits (by omega) (by rw [hz2]; exact hb))
    have hge := grownCap_ge w (n + 1) n 36
    have hcm : grownCap w (n + 1) n 36 ≤ maxLen := grownCap_le_maxLen w (n + 1) n 36 (by simp only [maxLen]; omega)
    refine ⟨_, _, hrun, ⟨by rw [nines_len, Nat.mul_one], .inr ⟨w.heap.size, _, _, rfl, hbase, heap_alloc_new w.drew _, hge, hcm, ?_, ?_⟩⟩, none, ⟨rfl, rfl, rfl, by simp, fun k hk _ => heap_alloc_old w.drew _ k hk⟩, fun k hk => by cases hk⟩
    · simp only [Array.size_append, List.size_toArray, size_zeroCells, List.length_append, nines_len]
      simp [Value.cells]
      omega
    · rw [nines_succ, Array.toList_append, Nat.mul_one]
      have : (nines (n + 1)).length = n + 1 := nines_len _
      exact (congrArg (fun k => List.take k _) this.symm).trans List.take_left
  · obtain ⟨v', w', h1, h2, h3, _⟩ := run_append_own (P := Try.prog) w base 22 22 36 i0 (.int .u64 0) 1 8 Try.underlying22 hi hz0 hz1 hz2 rfl (by decide) v n (nines n) hown a 1 1 [.int .u64 99] rfl hnews (by simp [Value.oneCell']) (by simp only [maxLen]; omega) hb hbase
    exact ⟨v', w', h1, by rw [← nines_succ]; exact h2, v.ownBlock, h3, fun k hk => (hown.lt k hk).1⟩

/-- The slice's cells may be written, in block g. -/
def Writes (w : World) (sp : Option Addr) (l g : Nat) : Prop := 0 < l → ∃ cur : Array Value, sp = some ⟨g, 0, none⟩ ∧ w.heap[g]? = some (.cells cur 36 (0, 0)) ∧ l ≤ cur.size

/-- The first k cells of block g are 99. -/
def Wrote (w : World) (sp : Option Addr) (l g k : Nat) : Prop := 0 < l → ∃ cur : Array Value, sp = some ⟨g, 0, none⟩ ∧ w.heap[g]? = some (.cells cur 36 (0, 0)) ∧ l ≤ cur.size ∧ ∀ i, i < k → cur[i]? = some (.int .u64 99)

theorem Wrote.step {w : World} {sp : Option Addr} {l g k : Nat} (h : Wrote w sp l g k) (hk : k < l) : Wrote (w.setCell ⟨g, k, none⟩ (.int .u64 99)) sp l g (k + 1) := fun _ => by
  obtain ⟨cur, h1, h2, h3, h4⟩ := h (by omega)
  refine ⟨_, h1, block_set h2 k _, by simpa using h3, fun i hi => ?_⟩
  rw [Array.getElem?_setIfInBounds]
  split
  · rename_i e
    subst e
    rw [if_pos (by omega)]
  · exact h4 i (by omega)

theorem nines_cell {w : World} {base : Nat} {v : Value} {n : Nat} (h : w.ownsRow base 36 1 v (n + 1) (nines (n + 1))) : ∃ g cap, v = .slice (some ⟨g, 0, none⟩) (n + 1) cap ∧ ∀ i, i < n + 1 → w.cell? ⟨g, i, none⟩ = some (.int .u64 99) := by
  rcases h.2 with ⟨_, h0⟩ | ⟨g, cap, cur, rfl, h1, h2, h3, h4, h5, h6⟩
  · omega
  · refine ⟨g, cap, rfl, fun i hi => ?_⟩
    rw [cell_of_block h2]
    have : (cur.toList.take ((n + 1) * 1))[i]? = (nines (n + 1))[i]? := by rw [h6]
    rw [List.getElem?_take_of_lt (by omega), nines_get _ _ hi] at this
    simpa using this

set_option maxRecDepth 100000 in
set_option maxHeartbeats 1000000 in
theorem spoil_any (sp : Option Addr) (l g : Nat) (w : World) (hb : l * 8 ≤ 140737488351232) (h : Writes w sp l g) :
    Calls Try.prog 48 #[.slice sp l l] w fun e w' => e = .returned (.bool true) ∧ Keeps (fun k => k = g) w w' := by
  have hl : (l : Int) ≤ 17592186043904 := by omega
  have HB : Hid (l * 8 ≤ 140737488351232) := hb
  have hW0 : Wrote w sp l g 0 := fun h0 => by
    obtain ⟨cur, h1, h2, h3⟩ := h h0
    exact ⟨cur, h1, h2, h3, fun i hi => by omega⟩
  clear hb h
  go_enter Try.func48, Try.ntmps48
  go_wp2_with fail
  go_loopw [3] (fun i wr => ∃ k : Nat, k ≤ l ∧ i = .int .i64 k ∧ Wrote wr sp l g k ∧ Keeps (fun x => x = g) w wr) (fun i _ => l - (intOf i).toNat)
  case atStart => exact ⟨0, Nat.zero_le _, rfl, hW0, Keeps.refl _ _⟩
  case round =>
    obtain ⟨k, hk, rfl, hW, kk⟩ := hrel
    by_cases hlt : k < l
    · have hW1 := hW.step hlt
      obtain ⟨cur, rfl, h2, h3, h4⟩ := hW (by omega)
      have hc : wr.cell? ⟨g, k, none⟩ = some (cur[k]'(by omega)) := by rw [cell_of_block h2, Array.getElem?_eq_getElem (by omega)]
      have hf := frozen_of_block h2 k
      generalize cur[k]'(by omega) = y at hc
      have kk1 := kk.setCell (p := ⟨g, k, none⟩) (.inr rfl) (.int .u64 99)
      clear h2 h3 h4 hW
      go_wp2
      go_roundw
      case rel => exact ⟨k + 1, by omega, by go_num, hW1, kk1⟩
      case measure => simp [intOf]; omega
    · obtain rfl : k = l := by omega
      obtain ⟨W1, hW1⟩ : ∃ W1, W1 = wr := ⟨_, rfl⟩
      subst hW1
      have hN : Nines W1 W1.heap.size (.slice sp k k) (k + 0) := .inl ⟨sp, rfl, fun i hi => by
        obtain ⟨cur, rfl, h2, h3, h4⟩ := hW (by omega)
        exact ⟨g, rfl, by rw [cell_of_block h2]; exact h4 i hi⟩⟩
      clear hW hW0
      go_wp2_with fail
      go_loopw [4, 5] (fun v i wx => ∃ j : Nat, j ≤ 40 ∧ i = .int .i64 j ∧ Nines wx W1.heap.size v (k + j) ∧ (j = 40 → wx.ownsRow W1.heap.size 36 1 v (k + 40) (nines (k + 40))) ∧ Keeps (fun _ => False) W1 wx) (fun _ i _ => 40 - (intOf i).toNat)
      case atStart => exact ⟨0, by omega, rfl, hN, fun h => by omega, Keeps.refl _ _⟩
      case round =>
        obtain ⟨j, hj, rfl, hN1, hO, k1⟩ := hrel
        by_cases hlt : j < 40
        · have hz := k1.size
          have hN2 : Nines (wr.alloc (.cells #[.int .u64 99] 36)) W1.heap.size u4 (k + j) := by
            rcases hN1 with ⟨sp', rfl, hs⟩ | ho
            · exact .inl ⟨sp', rfl, fun i hi => by
                obtain ⟨g', e', hc⟩ := hs i hi
                exact ⟨g', e', by rw [World.cell?_alloc_lt _ _ _ (World.block_lt_of_cell? _ _ hc), hc]⟩⟩
            · exact .inr (ho.alloc _)
          obtain ⟨v', w', hr, ho, r, hg, hrb⟩ := append_nine _ W1.heap.size u4 (k + j) hN2 ⟨wr.heap.size, 0, none⟩ (by rw [addr_add, cell_of_block (alloc_block wr _)]; rfl) (by have := HB.out; omega) (by simp; omega)
          have k2 := (k1.alloc (.cells #[.int .u64 99] 36)).grown hg (fun x hx => .inl (hrb x hx))
          obtain ⟨gg, cap, rfl, _⟩ := nines_cell ho
          have HO2 : Hid (j + 1 = 40 → w'.ownsRow W1.heap.size 36 1 (.slice (some ⟨gg, 0, none⟩) (k + j + 1) cap) (k + 40) (nines (k + 40))) := fun h => by
            obtain rfl : j = 39 := by omega
            exact ho
          clear hN1 hN2 hg hO
          go_wp2_with (at_builtin; refine wpList_append_run rfl _ _ 22 rfl _ _ _ _ rfl rfl hr ?_; clear hr)
          go_roundw
          case rel => exact ⟨j + 1, by omega, by go_num, .inr (by rw [← Nat.add_assoc]; exact ho), HO2.out, k2⟩
          case measure => simp [intOf]; omega
        · obtain rfl : j = 40 := by omega
          obtain ⟨gg, cap, rfl, hcell⟩ := nines_cell (hO rfl)
          have hk2 := kk.trans (k1.mono (fun _ _ f => f.elim))
          clear hN1 hO hN kk k1
          go_wp2_with fail
          go_loop [6] (fun i => ∃ j : Nat, j ≤ k + 40 ∧ i = .int .i64 j) (fun i => k + 40 - (intOf i).toNat)
          case atStart => exact ⟨0, by omega, rfl⟩
          case round =>
            obtain ⟨j, hj, rfl⟩ := hrel
            by_cases hlt : j < k + 40
            · have hc := hcell j (by omega)
              have hlt' : (j : Int) < ((k + 39 + 1 : Nat) : Int) := by omega
              go_wp2
              go_round
              case rel => exact ⟨j + 1, by omega, by go_num⟩
              case measure => simp [intOf]; omega
            · obtain rfl : j = k + 40 := by omega
              go_wp2
              go_ret
              exact ⟨by simp; omega, hk2⟩

set_option maxHeartbeats 400000 in
theorem left_any (g cap : Nat) (sp : Option Addr) (l c : Nat) (ws : List Int) (w : World) (hn : ws.length = l) (hb : l * 8 ≤ 140737488351232) (hL : Lent w g cap ws) (hr : Reads w sp ws) :
    Calls Try.prog 14 #[.slice (some ⟨g, 0, none⟩) l cap, .slice sp l c] w fun e w' => e = .returned (.bool true) ∧ Drew w w' := by
  have c0 := hL.cell l (by omega)
  have c1 := hL.cell (l + 1) (by omega)
  rw [List.getElem?_append_right (by omega), show l - ws.length = 0 by omega] at c0
  rw [List.getElem?_append_right (by omega), show l + 1 - ws.length = 1 by omega] at c1
  replace c0 : w.cell? ⟨g, l, none⟩ = some (.int .u64 77) := c0
  replace c1 : w.cell? ⟨g, l + 1, none⟩ = some (.int .u64 78) := c1
  have hroom : (l : Int) + 2 ≤ (cap : Int) := by have := hL.room; omega
  have hcap : (cap : Int) ≤ 9223372036854775807 := by have := hL.cap; simp only [maxLen] at this; omega
  have hl : (l : Int) ≤ 17592186043904 := by omega
  have hlr := hL.reads
  have HN : Hid (ws.length = l) := hn
  have HB : Hid (l * 8 ≤ 140737488355328) := by show l * 8 ≤ 140737488355328; omega
  clear hL hn hb
  go_enter Try.func14, Try.ntmps14
  go_wp2_with fail
  refine (sameWords_eq _ _ l _ _ ws _ HN.out HB.out hlr hr).mono ?_
  rintro e w' ⟨rfl, m, rfl⟩
  go_wp2_with fail
  go_ret
  exact ⟨by simp, m, rfl⟩

end Go.Proofs.Ytmffkcbdgpaieaa
