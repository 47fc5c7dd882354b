/-
  A table of the document's answer that is read alone: a copy. No statement of the seat is proved here.
-/
import Derived.Test.YtbhocajmcfdffaaDoorRHold
import Derived.Deep.RegionHeld3
namespace Go.Proofs.YtbhocajmcfdffaaDoor.R
open Go.RowKit Go.Shelf

/-- What of a table can be read. -/
structure Rd (w : World) (b s c : Nat) (K : List (Option Int)) (vf : Int → Int) : Prop where
  c0 : w.cell? ⟨b, 0, none⟩ = some (.slice (some ⟨s, 0, none⟩) K.length c)
  cs : ∀ x j, x < K.length → j < 3 → w.cell? ⟨s, x * 3 + j, none⟩ = some (refCell vf (sl K x) j)

set_option maxHeartbeats 400000 in
theorem behind_rd (b s c n x : Nat) (w : World) (hx : x < n) (hn : n ≤ 35184372088832) (h0 : w.cell? ⟨b, 0, none⟩ = some (.slice (some ⟨s, 0, none⟩) n c)) :
    Calls Tryd.prog 88 #[.pointer (some ⟨b, 0, none⟩), .int .i64 x] w fun e w' => e = .returned (.int .i64 (wrapN n (x + 1))) ∧ w' = w := by
  by_cases hl : x + 1 = n
  · have he : wrapN n (x + 1) = 0 := by unfold wrapN; rw [if_neg (by omega)]; omega
    rw [he]
    have h1 : ((x : Int) + 1 == (n : Int)) = true := by simp; omega
    have h2 : (x : Int) + 1 = (n : Int) := by omega
    go_enter Tryd.func88, Tryd.ntmps88
    go_wp2_with fail
    go_ret
    exact ⟨rfl, rfl⟩
  · have he : wrapN n (x + 1) = x + 1 := by unfold wrapN; rw [if_pos (by omega)]
    rw [he]
    have h1 : ((x : Int) + 1 == (n : Int)) = false := by simp; omega
    have h2 : ¬ (x : Int) + 1 = (n : Int) := by omega
    go_enter Tryd.func88, Tryd.ntmps88
    go_wp2_with fail
    go_ret
    exact ⟨by go_num, rfl⟩

set_option maxHeartbeats 400000 in
theorem look_rd (b s c p n : Nat) (K : List (Option Int)) (vf : Int → Int) (k : Int) (w : World) (h : Rd w b s c K vf) (hn : Hid (n = 2 ^ p)) (h3 : 3 ≤ p) (hp : p ≤ 43) (hl : K.length = n) (hz : ∃ z, z < n ∧ sl K z = none) :
    Calls Tryd.prog 60 #[.pointer (some ⟨b, 0, none⟩), .int .u64 k] w fun e w' =>
      e = .returned (.tuple #[.int .i64 (slotN n K (homeP p k) k), .int .i64 (lookN n K (homeP p k) k + 1 : Nat)]) ∧ w' = w := by
  have hhome := rhome_yes k p n h3 (by omega) (by unfold Hid; rw [hn.out]; simp) w
  have ha : homeP p k < n := by rw [hn.out]; exact homeP_lt p (by omega) k
  obtain ⟨hL, hE, hB⟩ := look_spec ha k hz
  have c0 := h.c0
  rw [hl] at c0
  have hnb : n ≤ 8796093022208 := by rw [hn.out]; exact Nat.pow_le_pow_right (n := 2) (by decide) hp
  generalize homeP p k = a at *
  have hcs := fun x hx => h.cs x 0 hx (by decide)
  have hck := fun x hx => h.cs x 1 hx (by decide)
  rw [hl] at hcs hck
  simp only [Nat.add_zero] at hcs
  have HS : Hid (slotN n K a k = wrapN n (a + lookN n K a k)) := rfl
  generalize slotN n K a k = x at *
  generalize lookN n K a k = L at *
  clear h hz
  go_enter Tryd.func60, Tryd.ntmps60
  go_wp2_with fail
  refine hhome.mono ?_
  rintro e w' ⟨rfl, hw'⟩
  replace hw' := hw'.symm
  subst hw'
  go_wp2_with fail
  go_loop [6, 8] (fun i d => ∃ j : Nat, j ≤ L ∧ i = .int .i64 (wrapN n (a + j)) ∧ d = .int .i64 (j + 1 : Nat)) (fun _ d => L + 1 - (intOf d).toNat)
  case atStart => exact ⟨0, by omega, by unfold wrapN; rw [if_pos (by omega)]; rfl, rfl⟩
  case round =>
    obtain ⟨j, hj, rfl, rfl⟩ := hrel
    have hxn : wrapN n (a + j) < n := wrap_lt (by omega)
    have hc0 := hcs (wrapN n (a + j)) hxn
    have hc1 := hck (wrapN n (a + j)) hxn
    have hnext := behind_rd b s c n (wrapN n (a + j)) w hxn (by omega) c0
    rw [show wrapN n (wrapN n (a + j) + 1) = wrapN n (a + (j + 1)) by unfold wrapN; split <;> split <;> split <;> omega] at hnext
    clear hcs hck
    by_cases hlt : j < L
    · have hb := hB j hlt
      cases hs : sl K (wrapN n (a + j)) with
      | none => rw [ends_none hs] at hb; cases hb
      | some q =>
        rw [ends_some hs] at hb
        have hqk : (q != k) = true := by simpa using hb
        rw [hs] at hc0 hc1
        rw [refCell_some0] at hc0
        rw [refCell_some1] at hc1
        generalize wrapN n (a + j) = y at *
        generalize hz : wrapN n (a + (j + 1)) = z at *
        have HZ : Hid (wrapN n (a + (j + 1)) = z) := hz
        clear hz
        clear hB hE hs hb
        go_wp2_with fail
        refine hnext.mono ?_
        rintro e w' ⟨rfl, hw'⟩
        replace hw' := hw'.symm
        subst hw'
        go_wp2_with fail
        go_round
        case rel => exact ⟨j + 1, by omega, by rw [HZ.out], by go_num⟩
        case measure => simp [intOf]; omega
    · obtain rfl : j = L := by omega
      rw [← HS.out] at hc0 hc1 hxn ⊢
      cases hs : sl K x with
      | none =>
        rw [hs, refCell_none0] at hc0
        clear hB hE hs hc1 hnext
        go_wp2_with fail
        go_ret2
        exact ⟨rfl, rfl⟩
      | some q =>
        rw [ends_some hs] at hE
        obtain rfl : q = k := of_decide_eq_true hE
        have hqk : (q != q) = false := by simp
        rw [hs] at hc0 hc1
        rw [refCell_some0] at hc0
        rw [refCell_some1] at hc1
        clear hB hE hs hnext
        go_wp2_with fail
        go_ret2
        exact ⟨rfl, rfl⟩

set_option maxHeartbeats 400000 in
theorem get_rd (b s c p : Nat) (K : List (Option Int)) (O : List Int) (vf : Int → Int) (k : Int) (w : World) (h : Rd w b s c K vf) (hI : Inv (2 ^ p) (homeP p) K O) (h3 : 3 ≤ p) (h43 : p ≤ 43) :
    Calls Tryd.prog 20 #[.pointer (some ⟨b, 0, none⟩), .int .u64 k] w fun e w' => e = .returned (.tuple #[.int .u64 (if k ∈ O then vf k else 0), .bool (decide (k ∈ O))]) ∧ Drew w w' := by
  have hf := look_rd b s c p (2 ^ p) K vf k w h rfl h3 h43 hI.len hI.free
  have c0 := h.c0
  have hsl : slotN (2 ^ p) K (homeP p k) k < K.length := by rw [hI.len]; exact slot_lt (hI.home k) k hI.free
  have hc0 := h.cs _ 0 hsl (by decide)
  have hc2 := h.cs _ 2 hsl (by decide)
  have hpw : K.length ≤ 8796093022208 := by rw [hI.len]; exact Nat.pow_le_pow_right (n := 2) (by decide) h43
  rw [Nat.add_zero] at hc0
  have hval : ∃ V D, refCell vf (sl K (slotN (2 ^ p) K (homeP p k) k)) 0 = .bool D ∧ refCell vf (sl K (slotN (2 ^ p) K (homeP p k) k)) 2 = .int .u64 V ∧ Hid (V = if k ∈ O then vf k else 0) ∧ Hid (D = decide (k ∈ O)) := by
    by_cases hk : k ∈ O
    · rw [hI.slot_in hk]
      exact ⟨_, _, rfl, rfl, (if_pos hk).symm, (decide_eq_true hk).symm⟩
    · rw [hI.slot_out hk]
      exact ⟨_, _, rfl, rfl, (if_neg hk).symm, (decide_eq_false hk).symm⟩
  obtain ⟨V, D, e0, e2, HV, HD⟩ := hval
  rw [e0] at hc0
  rw [e2] at hc2
  rw [← HV.out, ← HD.out]
  generalize slotN (2 ^ p) K (homeP p k) k = x at *
  generalize lookN (2 ^ p) K (homeP p k) k + 1 = L at *
  clear e0 e2 h hI HV HD
  go_enter Tryd.func20, Tryd.ntmps20
  go_wp2_with fail
  refine hf.mono ?_
  rintro e w' ⟨rfl, hw'⟩
  replace hw' := hw'.symm
  subst hw'
  go_wp2_with fail
  go_quiet (fail)
  go_wp2_with fail
  go_ret2
  exact ⟨rfl, ⟨_, rfl⟩⟩


/-- A copy. -/
structure Was (w : World) (b s c p : Nat) (K : List (Option Int)) (O : List Int) (vf : Int → Int) (v : Value) (cur : Array Value) : Prop where
  tab : w.heap[b]? = some (.cells #[.slice (some ⟨s, 0, none⟩) K.length c, v] 48 (0, 0))
  slots : w.heap[s]? = some (.cells cur 95 (0, 0))
  cur : ∀ i, i < K.length * 3 → cur[i]? = (refCells vf K)[i]?
  row : w.ownsRow 1 25 1 v O.length (wordsV O)
  inv : Inv (2 ^ p) (homeP p) K O
  p3 : 3 ≤ p
  p43 : p ≤ 43
  many : O.length ≤ 4398046511104

section
variable {w w' : World} {b s c p : Nat} {K : List (Option Int)} {O : List Int} {vf : Int → Int} {v : Value} {cur : Array Value}
theorem Was.rd (h : Was w b s c p K O vf v cur) : Rd w b s c K vf :=
  ⟨by rw [cell_of_block h.tab]; rfl, fun x j hx hj => by rw [cell_of_block h.slots, h.cur _ (by omega), refCells_get vf K x j hx hj]⟩
theorem Was.blocks (h : Was w b s c p K O vf v cur) (hb : ∀ q, ROwn b s v q → w'.heap[q]? = w.heap[q]?) : Was w' b s c p K O vf v cur :=
  ⟨(hb _ (.inl rfl)).trans h.tab, (hb _ (.inr (.inl rfl))).trans h.slots, h.cur, row_of_block h.row (fun q hq => hb q (.inr (.inr hq))), h.inv, h.p3, h.p43, h.many⟩
theorem Was.lt (h : Was w b s c p K O vf v cur) {q : Nat} (hq : ROwn b s v q) : q < w.heap.size := by
  rcases hq with rfl | rfl | hq
  · exact lt_of_block h.tab
  · exact lt_of_block h.slots
  · exact (h.row.lt q hq.symm).2
end

/-- A copy with the blocks that are its own. -/
def Had (w : World) (b p : Nat) (K : List (Option Int)) (O : List Int) (uf : Int → Int) (v : Value) (Ow : Nat → Prop) : Prop := ∃ s c cur, Was w b s c p K O uf v cur ∧ ∀ q, Ow q ↔ ROwn b s v q
section
variable {w w' : World} {b p : Nat} {K : List (Option Int)} {O : List Int} {uf : Int → Int} {v : Value} {Ow : Nat → Prop}
theorem Had.lt (h : Had w b p K O uf v Ow) {q : Nat} (hq : Ow q) : q < w.heap.size := by
  obtain ⟨s, c, cur, hW, hO⟩ := h
  exact hW.lt ((hO q).1 hq)
theorem Had.blocks (h : Had w b p K O uf v Ow) (hb : ∀ q, Ow q → w'.heap[q]? = w.heap[q]?) : Had w' b p K O uf v Ow := by
  obtain ⟨s, c, cur, hW, hO⟩ := h
  exact ⟨s, c, cur, hW.blocks (fun q hq => hb q ((hO q).2 hq)), hO⟩
theorem Had.kept {S : Nat → Prop} (h : Had w b p K O uf v Ow) (k : Keeps S w w') (hS : ∀ q, Ow q → ¬ S q) : Had w' b p K O uf v Ow := h.blocks (fun q hq => k.block q (h.lt hq) (hS q hq))
theorem Had.cells (h : Had w b p K O uf v Ow) {q : Nat} (hq : Ow q) : ∃ c t fr, w.heap[q]? = some (.cells c t fr) ∧ t ≠ 85 ∧ t ≠ 3 := by
  obtain ⟨s, c, cur, hW, hO⟩ := h
  rcases (hO q).1 hq with rfl | rfl | e
  · exact ⟨_, _, _, hW.tab, by decide⟩
  · exact ⟨_, _, _, hW.slots, by decide⟩
  · rcases hW.row.2 with ⟨h1, _⟩ | ⟨g, cap, cur', rfl, h2, h3, h4⟩
    · rw [h1] at e; simp [Value.ownBlock] at e
    · simp [Value.ownBlock] at e
      subst e
      exact ⟨_, _, _, h3, by decide⟩
theorem Had.reads (h : Had w b p K O uf v Ow) : Reads w v O := by
  obtain ⟨s, c, cur, hW, hO⟩ := h
  exact reads_own (by have := hW.many; omega) hW.row
theorem Had.c1 (h : Had w b p K O uf v Ow) : w.cell? ⟨b, 1, none⟩ = some v := by
  obtain ⟨s, c, cur, hW, hO⟩ := h
  rw [cell_of_block hW.tab]; rfl
theorem Had.get (h : Had w b p K O uf v Ow) (k : Int) : Calls Tryd.prog 20 #[.pointer (some ⟨b, 0, none⟩), .int .u64 k] w fun e w' => e = .returned (.tuple #[.int .u64 (if k ∈ O then uf k else 0), .bool (decide (k ∈ O))]) ∧ Drew w w' := by
  obtain ⟨s, c, cur, hW, hO⟩ := h
  exact get_rd b s c p K O uf k w hW.rd hW.inv hW.p3 hW.p43
end
set_option maxHeartbeats 400000 in
theorem Had.len {w : World} {b p : Nat} {K : List (Option Int)} {O : List Int} {uf : Int → Int} {v : Value} {Ow : Nat → Prop} (h : Had w b p K O uf v Ow) : Calls Tryd.prog 21 #[.pointer (some ⟨b, 0, none⟩)] w fun e w' => e = .returned (.int .i64 O.length) ∧ w' = w := by
  have c1 := h.c1
  have hm := h.reads.1
  obtain ⟨a, c, rfl⟩ := h.reads.form
  clear h
  go_enter Tryd.func21, Tryd.ntmps21
  go_wp2
  go_ret
  exact ⟨rfl, rfl⟩

theorem refCell_one (vf : Int → Int) (o : Option Int) (j : Nat) : (refCell vf o j).oneCell' = true := by
  rcases o with _ | k
  · rcases j with _ | j <;> rfl
  · match j with
    | 0 => rfl
    | 1 => rfl
    | j + 2 => rfl

theorem wp_held_end {P : Program} {ops : Array Oper} {Q : Exit → Act → World → Prop} {id : Nat} {a : Act} {w : World} {S : World → Prop} (N : Nat) (hN : ops.size = N) (hm : P.follows .mixedOrders = true)
    (h : wpAnyH P .any ops (atEnd (Q .normal)) S N (Array.replicate N false) a w.drew) : (Code.region id ops true).wp P Q a w := by
  subst hN
  exact Code.wp_mono (fun e a w h => by cases e <;> first | exact h | exact h.elim) (wp_region_held hm h)

/-- Words appended to nothing. -/
theorem append_words {W : World} {base : Nat} {v : Value} {O : List Int} (h : W.ownsRow base 25 1 v O.length (wordsV O)) (hO : O.length ≤ 4398046511104) (h1 : 1 ≤ W.heap.size) :
    ∃ v' W', (Builtin.append_ #[37, 37] 37 #[.slice none 0 0, v]).run Tryd.prog W = .ok v' W' ∧ W'.ownsRow 1 25 1 v' O.length (wordsV O) ∧ W.grownBy W' none ∧ ∀ q, some q = v'.ownBlock → W.heap.size ≤ q := by
  obtain ⟨i0, hi, hz0, hz1, hzb⟩ := info_parts info_word
  rcases h.2 with ⟨rfl, hn⟩ | ⟨g, cap, cur, rfl, h2⟩
  · have hO0 : O = [] := List.eq_nil_of_length_eq_zero hn
    subst hO0
    exact ⟨_, W, run_append_owned_none W 1 37 37 25 i0 1 Tryd.underlying37 hi (.slice none 0 0) 0 [] (World.ownsRow_nil _ _ _ _), World.ownsRow_nil _ _ _ _, ⟨rfl, rfl, rfl, Nat.le_refl _, fun _ _ _ => rfl⟩, fun q hq => by simp [Value.ownBlock] at hq⟩
  · have hnew : ∀ (j : Nat) (u : Value), (wordsV O)[j]? = some u → W.cell? ((⟨g, 0, none⟩ : Addr).add j) = some u := fun j u hj => by
      have hl : j < (wordsV O).length := (List.getElem?_eq_some_iff.1 hj).1
      rw [addr_add, Nat.zero_add, World.ownsRow.cellAt h j (by simpa [wordsV] using hl)]
      exact hj
    obtain ⟨v', W', e1, e2, e3, _, e5⟩ := run_append_own_at (P := Tryd.prog) W 1 37 37 25 i0 (.int .u64 0) 1 8 Tryd.underlying37 hi hz0 hz1 hzb rfl (by decide) (.slice none 0 0) 0 [] (World.ownsRow_nil _ _ _ _) ⟨g, 0, none⟩ O.length cap (wordsV O) (by simp [wordsV]) hnew (by simp [wordsV, Value.oneCell']) (by unfold maxLen; omega) (by omega) h1
    refine ⟨v', W', e1, by simpa using e2, e3, fun q hq => ?_⟩
    rcases e5 with e | e
    · rw [e] at hq; simp [Value.ownBlock] at hq
    · rw [e] at hq
      injection hq with hq
      omega

/-- Slots appended to nothing. -/
theorem append_slots {W : World} {s cc : Nat} {K : List (Option Int)} {uf : Int → Int} {ex : Array Value} (hs : W.heap[s]? = some (.cells (refCells uf K ++ ex) 95 (0, 0))) (hK : K.length ≤ 4398046511104) (h8 : 0 < K.length) (h1 : 1 ≤ W.heap.size) :
    ∃ cap ex' W', (Builtin.append_ #[46, 46] 46 #[.slice none 0 0, .slice (some ⟨s, 0, none⟩) K.length cc]).run Tryd.prog W = .ok (.slice (some ⟨W.heap.size, 0, none⟩) K.length cap) W' ∧
      W'.heap[W.heap.size]? = some (.cells (refCells uf K ++ ex') 95 (0, 0)) ∧ W.grownBy W' none := by
  obtain ⟨i0, hi, hz0, hz1, hzb⟩ := info_parts info_slot
  have hnew : ∀ (j : Nat) (u : Value), (refCells uf K).toList[j]? = some u → W.cell? ((⟨s, 0, none⟩ : Addr).add j) = some u := fun j u hj => by
    have hl := (List.getElem?_eq_some_iff.1 hj).1
    rw [addr_add, Nat.zero_add, cell_of_block hs, Array.getElem?_append_left (by simpa using hl)]
    simpa using hj
  have hone : ∀ u ∈ (refCells uf K).toList, u.oneCell' = true := fun u hu => by
    simp only [refCells, List.mem_map] at hu
    obtain ⟨i, _, rfl⟩ := hu
    exact refCell_one _ _ _
  obtain ⟨v', W', e1, e2, e3, e4, e5⟩ := run_append_own_at (P := Tryd.prog) W 1 46 46 95 i0 (.agg #[.bool false, .int .u64 0, .int .u64 0]) 3 24 Tryd.underlying46 hi hz0 hz1 hzb rfl (by decide) (.slice none 0 0) 0 [] (World.ownsRow_nil _ _ _ _) ⟨s, 0, none⟩ K.length cc (refCells uf K).toList (by simp [refCells_size]) hnew hone (by unfold maxLen; omega) (by omega) h1
  rw [Nat.zero_add, List.nil_append] at e2
  rcases e2.2 with ⟨_, hn⟩ | ⟨g, cap, cur, rfl, f1, f2, f3, f4, f5, f6⟩
  · omega
  · have hg : g = W.heap.size := by
      rcases e5 with e | e
      · simp [Value.ownBlock] at e
      · simpa [Value.ownBlock] using e
    subst hg
    refine ⟨cap, (cur.toList.drop (K.length * 3)).toArray, W', e1, ?_, e3⟩
    have hcur : refCells uf K ++ (cur.toList.drop (K.length * 3)).toArray = cur := by
      apply Array.toList_inj.1
      rw [Array.toList_append, ← f6, List.take_append_drop]
    rw [hcur]
    exact f2

set_option maxRecDepth 100000 in
set_option maxHeartbeats 1000000 in
theorem copy_all (b p : Nat) (K : List (Option Int)) (O : List Int) (uf : Int → Int) (Or : Nat → Prop) (w : World) (h : Holds w b p K O uf Or) (hp : p ≤ 42) (h1 : 1 ≤ w.heap.size) :
    Calls Tryd.prog 13 #[.pointer (some ⟨b, 0, none⟩)] w fun e w' => ∃ b' s' v, e = .returned (.pointer (some ⟨b', 0, none⟩)) ∧ Fine w' b' s' p K O uf v ∧ (∀ q, ROwn b' s' v q → w.heap.size ≤ q) ∧ Keeps (fun _ => False) w w' := by
  obtain ⟨s, v, hF, hO⟩ := h
  obtain ⟨ex, hslots⟩ := hF.tab.slots
  obtain ⟨cc, htab⟩ := hF.tab.tab
  have c0 : w.cell? ⟨b, 0, none⟩ = some (.slice (some ⟨s, 0, none⟩) K.length cc) := by rw [cell_of_block htab]; rfl
  have c1 := hF.tab.c1
  obtain ⟨a, c, rfl⟩ := row_form hF.tab.row
  have hpw : K.length ≤ 4398046511104 := by rw [hF.inv.len]; exact Nat.pow_le_pow_right (n := 2) (by decide) hp
  have h8 : 0 < K.length := by rw [hF.inv.len]; exact Nat.two_pow_pos p
  obtain ⟨cap, ex', W1, hr1, hs1, hg1⟩ := append_slots (W := w.drew) (cc := cc) hslots hpw h8 h1
  replace hr1 : (Builtin.append_ #[46, 46] 46 #[.slice none 0 0, .slice (some ⟨s, 0, none⟩) K.length cc]).run Tryd.prog w.drew = .ok (.slice (some ⟨w.heap.size, 0, none⟩) K.length cap) W1 := hr1
  replace hs1 : W1.heap[w.heap.size]? = some (.cells (refCells uf K ++ ex') 95 (0, 0)) := hs1
  have hz1 : w.heap.size ≤ W1.heap.size := hg1.size
  have hlt1 := lt_of_block hs1
  have hb1 : ∀ q, q < w.heap.size → W1.heap[q]? = w.heap[q]? := fun q hq => hg1.block q hq (by simp)
  have hrow1 : W1.ownsRow 1 25 1 (.slice a O.length c) O.length (wordsV O) := row_of_block hF.tab.row (fun q hq => hb1 q (hF.tab.row.lt q hq.symm).2)
  obtain ⟨v2, W2, hr2, hrow2, hg2, hq2⟩ := append_words hrow1 hF.many (by omega)
  have hz2 : W1.heap.size ≤ W2.heap.size := hg2.size
  have hb2 : ∀ q, q < W1.heap.size → W2.heap[q]? = W1.heap[q]? := fun q hq => hg2.block q hq (by simp)
  have hS0 : w.drew.cell? ⟨b, 0, none⟩ = some (.slice (some ⟨s, 0, none⟩) K.length cc) ∧ w.drew.cell? ⟨b, 1, none⟩ = some (.slice a O.length c) := ⟨c0, c1⟩
  have hlb := lt_of_block htab
  have hS1 : W1.cell? ⟨b, 0, none⟩ = some (.slice (some ⟨s, 0, none⟩) K.length cc) ∧ W1.cell? ⟨b, 1, none⟩ = some (.slice a O.length c) := by
    have := (hb1 b hlb).trans htab
    exact ⟨by rw [cell_of_block this]; rfl, by rw [cell_of_block this]; rfl⟩
  have hS2 : W2.cell? ⟨b, 0, none⟩ = some (.slice (some ⟨s, 0, none⟩) K.length cc) ∧ W2.cell? ⟨b, 1, none⟩ = some (.slice a O.length c) := by
    have := (hb2 b (by omega)).trans ((hb1 b hlb).trans htab)
    exact ⟨by rw [cell_of_block this]; rfl, by rw [cell_of_block this]; rfl⟩
  have hS3 : (W2.alloc (.cells #[.slice (some ⟨w.heap.size, 0, none⟩) K.length cap, v2] 48)).cell? ⟨b, 0, none⟩ = some (.slice (some ⟨s, 0, none⟩) K.length cc) ∧ (W2.alloc (.cells #[.slice (some ⟨w.heap.size, 0, none⟩) K.length cap, v2] 48)).cell? ⟨b, 1, none⟩ = some (.slice a O.length c) := by
    have := alloc_old ((hb2 b (by omega)).trans ((hb1 b hlb).trans htab)) (.cells #[.slice (some ⟨w.heap.size, 0, none⟩) K.length cap, v2] 48)
    exact ⟨by rw [cell_of_block this]; rfl, by rw [cell_of_block this]; rfl⟩
  have hmx : Tryd.prog.follows .mixedOrders = true := by kernel_rfl
  have HE : Hid (Fine (W2.alloc (.cells #[.slice (some ⟨w.heap.size, 0, none⟩) K.length cap, v2] 48)) W2.heap.size w.heap.size p K O uf v2 ∧ (∀ q, ROwn W2.heap.size w.heap.size v2 q → w.heap.size ≤ q) ∧ Keeps (fun _ => False) w (W2.alloc (.cells #[.slice (some ⟨w.heap.size, 0, none⟩) K.length cap, v2] 48))) := by
    refine ⟨⟨⟨⟨_, alloc_block W2 _⟩, ⟨_, alloc_old ((hb2 _ hlt1).trans hs1) _⟩, hrow2.alloc _, by omega⟩, hF.inv, hF.load, hF.p3, hF.p43, hF.many⟩, ?_, (show Keeps (fun _ => False) w W2 from ⟨hg2.os.trans hg1.os, hg2.tape.trans hg1.tape, hg2.output.trans hg1.output, Nat.le_trans hz1 hz2, fun q hq _ => (hb2 q (Nat.lt_of_lt_of_le hq hz1)).trans (hb1 q hq)⟩).alloc _⟩
    rintro q (rfl | rfl | e)
    · omega
    · omega
    · have := hq2 q e
      omega
  obtain ⟨av2, cv2, rfl⟩ := row_form hrow2
  clear hF hg1 hg2 hslots htab hrow1 hrow2 hb1 hb2 hq2 hO hs1
  go_enter Tryd.func13, Tryd.ntmps13
  go_wp2_with fail
  refine wp_held_end (S := fun w' => w'.cell? ⟨b, 0, none⟩ = some (.slice (some ⟨s, 0, none⟩) K.length cc) ∧ w'.cell? ⟨b, 1, none⟩ = some (.slice a O.length c)) 13 rfl hmx ?_
  refine held_take (i := 0) (v := .pointer (some ⟨b, 0, none⟩)) 5 rfl rfl (by kernel_rfl) (by kernel_rfl) (by kernel_rfl) rfl (fun w' hw' => by obtain ⟨t1, t2⟩ := hw'; go_simp) hS0 ?_
  simp only [Act.put, List.setIfInBounds_toArray, List.set_cons_zero, List.set_cons_succ]
  refine held_take (i := 1) (v := .pointer (some ⟨b, 0, none⟩)) 6 rfl rfl (by kernel_rfl) (by kernel_rfl) (by kernel_rfl) rfl (fun w' hw' => by obtain ⟨t1, t2⟩ := hw'; go_simp) hS0 ?_
  simp only [Act.put, List.setIfInBounds_toArray, List.set_cons_zero, List.set_cons_succ]
  refine held_take (i := 2) (v := .pointer (some ⟨b, 0, none⟩)) 7 rfl rfl (by kernel_rfl) (by kernel_rfl) (by kernel_rfl) rfl (fun w' hw' => by obtain ⟨t1, t2⟩ := hw'; go_simp) hS0 ?_
  simp only [Act.put, List.setIfInBounds_toArray, List.set_cons_zero, List.set_cons_succ]
  refine held_take (i := 3) (v := .slice (some ⟨s, 0, none⟩) K.length cc) 8 rfl rfl (by kernel_rfl) (by kernel_rfl) (by kernel_rfl) rfl (fun w' hw' => by obtain ⟨t1, t2⟩ := hw'; go_simp) hS0 ?_
  simp only [Act.put, List.setIfInBounds_toArray, List.set_cons_zero, List.set_cons_succ]
  refine held_take (i := 5) (v := .pointer (some ⟨b, 0, none⟩)) 10 rfl rfl (by kernel_rfl) (by kernel_rfl) (by kernel_rfl) rfl (fun w' hw' => by obtain ⟨t1, t2⟩ := hw'; go_simp) hS0 ?_
  simp only [Act.put, List.setIfInBounds_toArray, List.set_cons_zero, List.set_cons_succ]
  refine held_take (i := 6) (v := .pointer (some ⟨b, 0, none⟩)) 11 rfl rfl (by kernel_rfl) (by kernel_rfl) (by kernel_rfl) rfl (fun w' hw' => by obtain ⟨t1, t2⟩ := hw'; go_simp) hS0 ?_
  simp only [Act.put, List.setIfInBounds_toArray, List.set_cons_zero, List.set_cons_succ]
  refine held_take (i := 7) (v := .pointer (some ⟨b, 1, none⟩)) 12 rfl rfl (by kernel_rfl) (by kernel_rfl) (by kernel_rfl) rfl (fun w' hw' => by obtain ⟨t1, t2⟩ := hw'; go_simp) hS0 ?_
  simp only [Act.put, List.setIfInBounds_toArray, List.set_cons_zero, List.set_cons_succ]
  refine held_take (i := 8) (v := .slice a O.length c) 13 rfl rfl (by kernel_rfl) (by kernel_rfl) (by kernel_rfl) rfl (fun w' hw' => by obtain ⟨t1, t2⟩ := hw'; go_simp) hS0 ?_
  simp only [Act.put, List.setIfInBounds_toArray, List.set_cons_zero, List.set_cons_succ]
  refine held_val (i := 4) (v := .slice (some ⟨w.heap.size, 0, none⟩) K.length cap) (w' := W1) (some 9) (by kernel_rfl) rfl rfl rfl (run_append_op rfl rfl rfl hr1) hS1 ?_
  simp only [Act.put, List.setIfInBounds_toArray, List.set_cons_zero, List.set_cons_succ]
  refine held_val (i := 9) (v := .slice av2 O.length cv2) (w' := W2) (some 14) (by kernel_rfl) rfl rfl rfl (run_append_op rfl rfl rfl hr2) hS2 ?_
  simp only [Act.put, List.setIfInBounds_toArray, List.set_cons_zero, List.set_cons_succ]
  refine held_val (i := 10) (v := .agg #[.slice (some ⟨w.heap.size, 0, none⟩) K.length cap, .slice av2 O.length cv2]) (w' := W2) (some 15) (by kernel_rfl) rfl rfl rfl (by go_simp) hS2 ?_
  simp only [Act.put, List.setIfInBounds_toArray, List.set_cons_zero, List.set_cons_succ]
  refine held_val (i := 11) (v := .pointer (some ⟨W2.heap.size, 0, none⟩)) (w' := W2.alloc (.cells #[.slice (some ⟨w.heap.size, 0, none⟩) K.length cap, .slice av2 O.length cv2] 48)) (some 16) (by kernel_rfl) rfl rfl rfl (by go_simp) hS3 ?_
  simp only [Act.put, List.setIfInBounds_toArray, List.set_cons_zero, List.set_cons_succ]
  refine held_val (i := 12) (v := .pointer (some ⟨W2.heap.size, 0, none⟩)) (w' := W2.alloc (.cells #[.slice (some ⟨w.heap.size, 0, none⟩) K.length cap, .slice av2 O.length cv2] 48)) (some 2) (by kernel_rfl) rfl rfl rfl (by go_simp) hS3 ?_
  simp only [Act.put, List.setIfInBounds_toArray, List.set_cons_zero, List.set_cons_succ]
  refine held_end (by kernel_rfl) ?_ _
  clear hr1 hr2 hS0 hS1 hS2 hS3
  go_wp2_with fail
  go_ret
  obtain ⟨q1, q2, q3⟩ := HE.out
  exact ⟨_, _, _, rfl, q1, q2, q3⟩

theorem copy_at (b p : Nat) (K : List (Option Int)) (O : List Int) (uf : Int → Int) (Or : Nat → Prop) (w : World) (h : Holds w b p K O uf Or) (hp : p ≤ 42) (h1 : 1 ≤ w.heap.size) :
    Calls Tryd.prog 13 #[.pointer (some ⟨b, 0, none⟩)] w fun e w' => ∃ b' v, e = .returned (.pointer (some ⟨b', 0, none⟩)) ∧ (∃ Ow, Had w' b' p K O uf v Ow ∧ ∀ q, Ow q → w.heap.size ≤ q) ∧ Keeps (fun _ => False) w w' := by
  refine (copy_all b p K O uf Or w h hp h1).mono ?_
  rintro e w' ⟨b', s', v, he, hF, hq, hk⟩
  obtain ⟨c, ht⟩ := hF.tab.tab
  obtain ⟨ex, hs⟩ := hF.tab.slots
  exact ⟨b', v, he, ⟨_, ⟨s', c, _, ⟨ht, hs, fun i hi => Array.getElem?_append_left (by rw [refCells_size]; exact hi), hF.tab.row, hF.inv, hF.p3, hF.p43, hF.many⟩, fun q => Iff.rfl⟩, hq⟩, hk⟩
/-- A copy is a table like another. -/
theorem hold_copy (b p : Nat) (K : List (Option Int)) (O : List Int) (uf : Int → Int) (Or : Nat → Prop) (w : World) (h : Holds w b p K O uf Or) (hp : p ≤ 42) (h1 : 1 ≤ w.heap.size) :
    Calls Tryd.prog 13 #[.pointer (some ⟨b, 0, none⟩)] w fun e w' => ∃ b', e = .returned (.pointer (some ⟨b', 0, none⟩)) ∧ (∃ Ow, Holds w' b' p K O uf Ow ∧ ∀ q, Ow q → w.heap.size ≤ q) ∧ Keeps (fun _ => False) w w' := by
  refine (copy_all b p K O uf Or w h hp h1).mono ?_
  rintro e w' ⟨b', s', v, he, hF, hq, hk⟩
  exact ⟨b', he, ⟨_, ⟨s', v, hF, fun q => Iff.rfl⟩, hq⟩, hk⟩
end Go.Proofs.YtbhocajmcfdffaaDoor.R
