/-
  A table of the document's answer as it lies in memory; its small walks: behind, look, Len, Slots, Asked, Keys, Get. No statement of the seat is proved here.
-/
import Derived.Test.YtbhocajmcfdffaaDoorWords
import Derived.Test.YtbhocajmcfdffaaDoorHome
namespace Go.Proofs.YtbhocajmcfdffaaDoor.R
open Go.RowKit Go.Shelf

/-- What a cell of a slot holds. -/
def refCell (vf : Int → Int) : Option Int → Nat → Value
  | none, 0 => .bool false
  | none, _ => .int .u64 0
  | some _, 0 => .bool true
  | some k, 1 => .int .u64 k
  | some k, _ => .int .u64 (vf k)
def refCells (vf : Int → Int) (K : List (Option Int)) : Array Value := ((List.range (K.length * 3)).map fun i => refCell vf (sl K (i / 3)) (i % 3)).toArray
theorem refCells_size (vf : Int → Int) (K : List (Option Int)) : (refCells vf K).size = K.length * 3 := by simp [refCells]
theorem refCells_get (vf : Int → Int) (K : List (Option Int)) (x j : Nat) (h : x < K.length) (hj : j < 3) : (refCells vf K)[x * 3 + j]? = some (refCell vf (sl K x) j) := by
  unfold refCells
  have h1 : x * 3 + j < K.length * 3 := by omega
  have h2 : (x * 3 + j) / 3 = x := by omega
  have h3 : (x * 3 + j) % 3 = j := by omega
  simp [h1, h2, h3]

/-- The table. -/
structure RefAt (w : World) (b s : Nat) (K : List (Option Int)) (O : List Int) (vf : Int → Int) (v : Value) : Prop where
  tab : ∃ c, w.heap[b]? = some (.cells #[.slice (some ⟨s, 0, none⟩) K.length c, v] 48 (0, 0))
  slots : ∃ ex : Array Value, w.heap[s]? = some (.cells (refCells vf K ++ ex) 95 (0, 0))
  row : w.ownsRow 1 25 1 v O.length (wordsV O)
  bs : b ≠ s

theorem refCell_none0 (vf : Int → Int) : refCell vf none 0 = .bool false := rfl
theorem refCell_some0 (vf : Int → Int) (k : Int) : refCell vf (some k) 0 = .bool true := rfl
theorem refCell_some1 (vf : Int → Int) (k : Int) : refCell vf (some k) 1 = .int .u64 k := rfl
theorem refCell_some2 (vf : Int → Int) (k : Int) : refCell vf (some k) 2 = .int .u64 (vf k) := rfl

section
variable {w w' : World} {b s : Nat} {K : List (Option Int)} {O : List Int} {vf : Int → Int} {v : Value}
theorem RefAt.c0 (h : RefAt w b s K O vf v) : ∃ c, w.cell? ⟨b, 0, none⟩ = some (.slice (some ⟨s, 0, none⟩) K.length c) := by
  obtain ⟨c, ht⟩ := h.tab
  exact ⟨c, by rw [cell_of_block ht]; rfl⟩
theorem RefAt.c1 (h : RefAt w b s K O vf v) : w.cell? ⟨b, 1, none⟩ = some v := by
  obtain ⟨c, ht⟩ := h.tab
  rw [cell_of_block ht]; rfl
theorem RefAt.cs (h : RefAt w b s K O vf v) (x j : Nat) (hx : x < K.length) (hj : j < 3) : w.cell? ⟨s, x * 3 + j, none⟩ = some (refCell vf (sl K x) j) := by
  obtain ⟨ex, hs⟩ := h.slots
  rw [cell_of_block hs, Array.getElem?_append_left (by rw [refCells_size]; omega), refCells_get vf K x j hx hj]
theorem RefAt.fs (h : RefAt w b s K O vf v) (i : Nat) : w.frozen? ⟨s, i, none⟩ = false := by
  obtain ⟨ex, hs⟩ := h.slots
  exact frozen_of_block hs i
theorem RefAt.fb (h : RefAt w b s K O vf v) (i : Nat) : w.frozen? ⟨b, i, none⟩ = false := by
  obtain ⟨c, ht⟩ := h.tab
  exact frozen_of_block ht i
theorem RefAt.ltb (h : RefAt w b s K O vf v) : b < w.heap.size := by
  obtain ⟨c, ht⟩ := h.tab
  exact lt_of_block ht
theorem RefAt.lts (h : RefAt w b s K O vf v) : s < w.heap.size := by
  obtain ⟨ex, hs⟩ := h.slots
  exact lt_of_block hs
end

set_option maxHeartbeats 400000 in
theorem behind_at (b s cc n x : Nat) (w : World) (hx : x < n) (hn : n ≤ 35184372088832) (h0 : w.cell? ⟨b, 0, none⟩ = some (.slice (some ⟨s, 0, none⟩) n cc)) :
    Calls Tryd.prog 88 #[.pointer (some ⟨b, 0, none⟩), .int .i64 x] w fun e w' => e = .returned (.int .i64 (wrapN n (x + 1))) ∧ w' = w := by
  by_cases hl : x + 1 = n
  · have he : wrapN n (x + 1) = 0 := by unfold wrapN; rw [if_neg (by omega)]; omega
    rw [he]
    have h1 : ((x : Int) + 1 == (n : Int)) = true := by simp; omega
    have h2 : (x : Int) + 1 = (n : Int) := by omega
    go_enter Tryd.func88, Tryd.ntmps88
    go_wp2_with fail
    go_ret
    exact ⟨rfl, rfl⟩
  · have he : wrapN n (x + 1) = x + 1 := by unfold wrapN; rw [if_pos (by omega)]
    rw [he]
    have h1 : ((x : Int) + 1 == (n : Int)) = false := by simp; omega
    have h2 : ¬ (x : Int) + 1 = (n : Int) := by omega
    go_enter Tryd.func88, Tryd.ntmps88
    go_wp2_with fail
    go_ret
    exact ⟨by go_num, rfl⟩

set_option maxHeartbeats 400000 in
theorem look_gen (b s p n : Nat) (K : List (Option Int)) (O : List Int) (vf : Int → Int) (v : Value) (k : Int) (w : World) (h : RefAt w b s K O vf v) (hn : Hid (n = 2 ^ p)) (h3 : 3 ≤ p) (hp : p ≤ 43) (hl : K.length = n) (hz : ∃ z, z < n ∧ sl K z = none) :
    Calls Tryd.prog 60 #[.pointer (some ⟨b, 0, none⟩), .int .u64 k] w fun e w' =>
      e = .returned (.tuple #[.int .i64 (slotN n K (homeP p k) k), .int .i64 (lookN n K (homeP p k) k + 1 : Nat)]) ∧ w' = w := by
  have hhome := rhome_yes k p n h3 (by omega) (by unfold Hid; rw [hn.out]; simp) w
  have ha : homeP p k < n := by rw [hn.out]; exact homeP_lt p (by omega) k
  obtain ⟨hL, hE, hB⟩ := look_spec ha k hz
  obtain ⟨cc, c0⟩ := h.c0
  rw [hl] at c0
  have hnb : n ≤ 8796093022208 := by rw [hn.out]; exact Nat.pow_le_pow_right (n := 2) (by decide) hp
  generalize homeP p k = a at *
  have hcs := fun x hx => h.cs x 0 hx (by decide)
  have hck := fun x hx => h.cs x 1 hx (by decide)
  rw [hl] at hcs hck
  simp only [Nat.add_zero] at hcs
  have HS : Hid (slotN n K a k = wrapN n (a + lookN n K a k)) := rfl
  generalize slotN n K a k = x at *
  generalize lookN n K a k = L at *
  clear h hz
  go_enter Tryd.func60, Tryd.ntmps60
  go_wp2_with fail
  refine hhome.mono ?_
  rintro e w' ⟨rfl, hw'⟩
  replace hw' := hw'.symm
  subst hw'
  go_wp2_with fail
  go_loop [6, 8] (fun i c => ∃ j : Nat, j ≤ L ∧ i = .int .i64 (wrapN n (a + j)) ∧ c = .int .i64 (j + 1 : Nat)) (fun _ c => L + 1 - (intOf c).toNat)
  case atStart => exact ⟨0, by omega, by unfold wrapN; rw [if_pos (by omega)]; rfl, rfl⟩
  case round =>
    obtain ⟨j, hj, rfl, rfl⟩ := hrel
    have hxn : wrapN n (a + j) < n := wrap_lt (by omega)
    have hc0 := hcs (wrapN n (a + j)) hxn
    have hc1 := hck (wrapN n (a + j)) hxn
    have hnext := behind_at b s cc n (wrapN n (a + j)) w hxn (by omega) c0
    rw [show wrapN n (wrapN n (a + j) + 1) = wrapN n (a + (j + 1)) by unfold wrapN; split <;> split <;> split <;> omega] at hnext
    clear hcs hck
    by_cases hlt : j < L
    · have hb := hB j hlt
      cases hs : sl K (wrapN n (a + j)) with
      | none => rw [ends_none hs] at hb; cases hb
      | some q =>
        rw [ends_some hs] at hb
        have hqk : (q != k) = true := by simpa using hb
        rw [hs] at hc0 hc1
        rw [refCell_some0] at hc0
        rw [refCell_some1] at hc1
        generalize wrapN n (a + j) = y at *
        generalize hz : wrapN n (a + (j + 1)) = z at *
        have HZ : Hid (wrapN n (a + (j + 1)) = z) := hz
        clear hz
        clear hB hE hs hb
        go_wp2_with fail
        refine hnext.mono ?_
        rintro e w' ⟨rfl, hw'⟩
        replace hw' := hw'.symm
        subst hw'
        go_wp2_with fail
        go_round
        case rel => exact ⟨j + 1, by omega, by rw [HZ.out], by go_num⟩
        case measure => simp [intOf]; omega
    · obtain rfl : j = L := by omega
      rw [← HS.out] at hc0 hc1 hxn ⊢
      cases hs : sl K x with
      | none =>
        rw [hs, refCell_none0] at hc0
        clear hB hE hs hc1 hnext
        go_wp2_with fail
        go_ret2
        exact ⟨rfl, rfl⟩
      | some q =>
        rw [ends_some hs] at hE
        obtain rfl : q = k := of_decide_eq_true hE
        have hqk : (q != q) = false := by simp
        rw [hs] at hc0 hc1
        rw [refCell_some0] at hc0
        rw [refCell_some1] at hc1
        clear hB hE hs hnext
        go_wp2_with fail
        go_ret2
        exact ⟨rfl, rfl⟩

/-- A table that is in order. -/
structure Fine (w : World) (b s p : Nat) (K : List (Option Int)) (O : List Int) (vf : Int → Int) (v : Value) : Prop where
  tab : RefAt w b s K O vf v
  inv : Inv (2 ^ p) (homeP p) K O
  load : 4 * O.length ≤ 3 * 2 ^ p
  p3 : 3 ≤ p
  p43 : p ≤ 43
  many : O.length ≤ 4398046511104

section
variable {w w' : World} {b s p : Nat} {K : List (Option Int)} {O : List Int} {vf : Int → Int} {v : Value}
theorem Fine.look (h : Fine w b s p K O vf v) (k : Int) :
    Calls Tryd.prog 60 #[.pointer (some ⟨b, 0, none⟩), .int .u64 k] w fun e w' =>
      e = .returned (.tuple #[.int .i64 (slotN (2 ^ p) K (homeP p k) k), .int .i64 (lookN (2 ^ p) K (homeP p k) k + 1 : Nat)]) ∧ w' = w :=
  look_gen b s p (2 ^ p) K O vf v k w h.tab rfl h.p3 h.p43 h.inv.len h.inv.free
theorem Fine.slotlt (h : Fine w b s p K O vf v) (k : Int) : slotN (2 ^ p) K (homeP p k) k < K.length := by rw [h.inv.len]; exact slot_lt (h.inv.home k) k h.inv.free
theorem Fine.pow (h : Fine w b s p K O vf v) : K.length ≤ 8796093022208 := by rw [h.inv.len]; exact Nat.pow_le_pow_right (n := 2) (by decide) h.p43
end

set_option maxHeartbeats 400000 in
theorem get_nil (k : Int) (w : World) : Calls Tryd.prog 20 #[.pointer none, .int .u64 k] w fun e w' => e = .returned (.tuple #[.int .u64 0, .bool false]) ∧ w' = w := by
  go_enter Tryd.func20, Tryd.ntmps20
  go_wp2
  go_ret2
  exact ⟨rfl, rfl⟩

set_option maxHeartbeats 400000 in
theorem get_gen (b s p : Nat) (K : List (Option Int)) (O O' : List Int) (vf : Int → Int) (v : Value) (k : Int) (w : World) (h : RefAt w b s K O' vf v) (hI : Inv (2 ^ p) (homeP p) K O) (h3 : 3 ≤ p) (h43 : p ≤ 43) :
    Calls Tryd.prog 20 #[.pointer (some ⟨b, 0, none⟩), .int .u64 k] w fun e w' => e = .returned (.tuple #[.int .u64 (if k ∈ O then vf k else 0), .bool (decide (k ∈ O))]) ∧ Drew w w' := by
  have hf := look_gen b s p (2 ^ p) K O' vf v k w h rfl h3 h43 hI.len hI.free
  obtain ⟨cc, c0⟩ := h.c0
  have hsl : slotN (2 ^ p) K (homeP p k) k < K.length := by rw [hI.len]; exact slot_lt (hI.home k) k hI.free
  have hc0 := h.cs _ 0 hsl (by decide)
  have hc2 := h.cs _ 2 hsl (by decide)
  have hpw : K.length ≤ 8796093022208 := by rw [hI.len]; exact Nat.pow_le_pow_right (n := 2) (by decide) h43
  rw [Nat.add_zero] at hc0
  have hval : ∃ V D, refCell vf (sl K (slotN (2 ^ p) K (homeP p k) k)) 0 = .bool D ∧ refCell vf (sl K (slotN (2 ^ p) K (homeP p k) k)) 2 = .int .u64 V ∧ Hid (V = if k ∈ O then vf k else 0) ∧ Hid (D = decide (k ∈ O)) := by
    by_cases hk : k ∈ O
    · rw [hI.slot_in hk]
      exact ⟨_, _, rfl, rfl, (if_pos hk).symm, (decide_eq_true hk).symm⟩
    · rw [hI.slot_out hk]
      exact ⟨_, _, rfl, rfl, (if_neg hk).symm, (decide_eq_false hk).symm⟩
  obtain ⟨V, D, e0, e2, HV, HD⟩ := hval
  rw [e0] at hc0
  rw [e2] at hc2
  rw [← HV.out, ← HD.out]
  generalize slotN (2 ^ p) K (homeP p k) k = x at *
  generalize lookN (2 ^ p) K (homeP p k) k + 1 = L at *
  clear e0 e2 h hI HV HD
  go_enter Tryd.func20, Tryd.ntmps20
  go_wp2_with fail
  refine hf.mono ?_
  rintro e w' ⟨rfl, hw'⟩
  replace hw' := hw'.symm
  subst hw'
  go_wp2_with fail
  go_quiet (fail)
  go_wp2_with fail
  go_ret2
  exact ⟨rfl, ⟨_, rfl⟩⟩

theorem get_at (b s p : Nat) (K : List (Option Int)) (O : List Int) (vf : Int → Int) (v : Value) (k : Int) (w : World) (h : Fine w b s p K O vf v) :
    Calls Tryd.prog 20 #[.pointer (some ⟨b, 0, none⟩), .int .u64 k] w fun e w' => e = .returned (.tuple #[.int .u64 (if k ∈ O then vf k else 0), .bool (decide (k ∈ O))]) ∧ Drew w w' :=
  get_gen b s p K O O vf v k w h.tab h.inv h.p3 h.p43

theorem row_form {w : World} {base : Nat} {v : Value} {O : List Int} (h : w.ownsRow base 25 1 v O.length (wordsV O)) : ∃ a c, v = .slice a O.length c := by
  rcases h.2 with ⟨h1, h2⟩ | ⟨g, cap, cur, rfl, _⟩
  · exact ⟨none, 0, by rw [h1, h2]⟩
  · exact ⟨_, _, rfl⟩

set_option maxHeartbeats 400000 in
theorem len_nil (w : World) : Calls Tryd.prog 21 #[.pointer none] w fun e w' => e = .returned (.int .i64 0) ∧ w' = w := by
  go_enter Tryd.func21, Tryd.ntmps21
  go_wp2
  go_ret
  exact ⟨rfl, rfl⟩
set_option maxHeartbeats 400000 in
theorem len_at (b s p : Nat) (K : List (Option Int)) (O : List Int) (vf : Int → Int) (v : Value) (w : World) (h : Fine w b s p K O vf v) :
    Calls Tryd.prog 21 #[.pointer (some ⟨b, 0, none⟩)] w fun e w' => e = .returned (.int .i64 O.length) ∧ w' = w := by
  have c1 := h.tab.c1
  have hm := h.many
  obtain ⟨a, c, rfl⟩ := row_form h.tab.row
  clear h
  go_enter Tryd.func21, Tryd.ntmps21
  go_wp2
  go_ret
  exact ⟨rfl, rfl⟩
set_option maxHeartbeats 400000 in
theorem slots_nil (w : World) : Calls Tryd.prog 50 #[.pointer none] w fun e w' => e = .returned (.int .i64 0) ∧ w' = w := by
  go_enter Tryd.func50, Tryd.ntmps50
  go_wp2
  go_ret
  exact ⟨rfl, rfl⟩
set_option maxHeartbeats 400000 in
theorem slots_at (b s p : Nat) (K : List (Option Int)) (O : List Int) (vf : Int → Int) (v : Value) (w : World) (h : Fine w b s p K O vf v) :
    Calls Tryd.prog 50 #[.pointer (some ⟨b, 0, none⟩)] w fun e w' => e = .returned (.int .i64 (2 ^ p : Nat)) ∧ w' = w := by
  obtain ⟨cc, c0⟩ := h.tab.c0
  rw [← h.inv.len]
  have hpw := h.pow
  clear h
  go_enter Tryd.func50, Tryd.ntmps50
  go_wp2
  go_ret
  exact ⟨rfl, rfl⟩
set_option maxHeartbeats 400000 in
theorem asked_nil (k : Int) (w : World) : Calls Tryd.prog 18 #[.pointer none, .int .u64 k] w fun e w' => e = .returned (.int .i64 0) ∧ w' = w := by
  go_enter Tryd.func18, Tryd.ntmps18
  go_wp2
  go_ret
  exact ⟨rfl, rfl⟩
set_option maxHeartbeats 400000 in
theorem asked_at (b s p : Nat) (K : List (Option Int)) (O : List Int) (vf : Int → Int) (v : Value) (k : Int) (w : World) (h : Fine w b s p K O vf v) :
    Calls Tryd.prog 18 #[.pointer (some ⟨b, 0, none⟩), .int .u64 k] w fun e w' => e = .returned (.int .i64 (lookN (2 ^ p) K (homeP p k) k + 1 : Nat)) ∧ w' = w := by
  have hf := h.look k
  generalize slotN (2 ^ p) K (homeP p k) k = x at *
  generalize lookN (2 ^ p) K (homeP p k) k + 1 = L at *
  clear h
  go_enter Tryd.func18, Tryd.ntmps18
  go_wp2_with fail
  refine hf.mono ?_
  rintro e w' ⟨rfl, hw'⟩
  replace hw' := hw'.symm
  subst hw'
  go_wp2_with fail
  go_ret
  exact ⟨rfl, rfl⟩
set_option maxHeartbeats 400000 in
theorem keys_nil (w : World) : Calls Tryd.prog 58 #[.pointer none] w fun e w' => e = .returned (.slice none 0 0) ∧ w' = w := by
  go_enter Tryd.func58, Tryd.ntmps58
  go_wp2
  go_ret
  exact ⟨rfl, rfl⟩
set_option maxHeartbeats 400000 in
theorem keys_at (b s p : Nat) (K : List (Option Int)) (O : List Int) (vf : Int → Int) (v : Value) (w : World) (h : Fine w b s p K O vf v) :
    Calls Tryd.prog 58 #[.pointer (some ⟨b, 0, none⟩)] w fun e w' => e = .returned v ∧ w' = w := by
  have c1 := h.tab.c1
  obtain ⟨a, c, rfl⟩ := row_form h.tab.row
  clear h
  go_enter Tryd.func58, Tryd.ntmps58
  go_wp2
  go_ret
  exact ⟨rfl, rfl⟩
end Go.Proofs.YtbhocajmcfdffaaDoor.R
