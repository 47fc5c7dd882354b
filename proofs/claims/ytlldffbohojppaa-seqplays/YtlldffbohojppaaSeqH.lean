
/- The walk of the law SeqPlays. -/
import Derived.Test.YtlldffbohojppaaSeqG
import Derived.LoopTactic
namespace Go.Proofs.Ytlldffbohojppaa
open Go.RowKit

theorem Keeps.cell {S : Nat → Prop} {w w' : World} (k : Keeps S w w') {a : Addr} {v : Value} (hs : ¬ S a.block) (h : w.cell? a = some v) : w'.cell? a = some v := by
  have hb := World.block_lt_of_cell? _ _ h
  unfold World.cell? at h ⊢
  rw [k.block _ hb hs]
  exact h

structure StepD where
  kd : Int
  on : Int
  s : Int
  nr : Bool

/-- The steps that came in. -/
def StepsAt (w : World) (sp : Option Addr) (ss : List StepD) : Prop := ∀ i, i < ss.length → ∃ g o d, sp = some ⟨g, o, none⟩ ∧ ss[i]? = some d ∧ 0 ≤ d.s ∧ d.s < 18446744073709551616 ∧
  w.cell? ⟨g, o + i * 4, none⟩ = some (.int .i64 d.kd) ∧ w.cell? ⟨g, o + i * 4 + 1, none⟩ = some (.int .i64 d.on) ∧ w.cell? ⟨g, o + i * 4 + 2, none⟩ = some (.int .u64 d.s) ∧ w.cell? ⟨g, o + i * 4 + 3, none⟩ = some (.bool d.nr)

def zeroA : Obj := .cells #[.pointer none, .pointer none] 25
def zeroB : Obj := .cells #[.int .u64 0, .int .i64 0, .int .u64 0, .int .i64 0] 28
def two (a b : Clk) : Nat → Clk := fun i => if i = 0 then a else b

theorem first_blocks (w : World) {w2 : World} (k : Keeps (fun _ => False) ((w.alloc zeroA).alloc zeroB) w2) : w2.heap[w.heap.size]? = some zeroA ∧ w2.heap[w.heap.size + 1]? = some zeroB := by
  have e1 : (w.alloc zeroA).heap.size = w.heap.size + 1 := by simp
  have a1 : ((w.alloc zeroA).alloc zeroB).heap[w.heap.size]? = some zeroA := (Below.heap_alloc _ _ _ (by omega)).trans (MapKept.heap_alloc w _).1
  have b1 : ((w.alloc zeroA).alloc zeroB).heap[w.heap.size + 1]? = some zeroB := by rw [← e1]; exact (MapKept.heap_alloc (w.alloc zeroA) _).1
  exact ⟨(k.block _ (lt_of_block a1) (fun f => f)).trans a1, (k.block _ (lt_of_block b1) (fun f => f)).trans b1⟩

theorem first_state (w w1 w2 : World) (p0 b0 c0 p1 b1 c1 : Nat) (x0 : Int) (hC0 : ClkAt w1 p0 b0 c0 x0 0) (hK0 : Keeps (fun _ => False) ((w.alloc zeroA).alloc zeroB) w1) (hC1 : ClkAt w2 p1 b1 c1 0 0) (hK1 : Keeps (fun _ => False) w1 w2)
    (lp0 : w.heap.size + 2 ≤ p0) (lb0 : w.heap.size + 2 ≤ b0) (lc0 : w.heap.size + 2 ≤ c0) (lp1 : w1.heap.size ≤ p1) (lb1 : w1.heap.size ≤ b1) (lc1 : w1.heap.size ≤ c1) (W : World)
    (hW : W = (((w2.setCell ⟨w.heap.size, 0, none⟩ (.pointer (some ⟨p0, 0, none⟩))).setCell ⟨w.heap.size, 1, none⟩ (.pointer (some ⟨p1, 0, none⟩))).setCell ⟨w.heap.size + 1, 0, none⟩ (.int .u64 x0)).setCell ⟨w.heap.size + 1, 1, none⟩ (.int .i64 0)) :
    Fam W (Fx w (.slice none 0 0) (.slice none 0 0)) (two ⟨p0, b0, c0, x0, 0⟩ ⟨p1, b1, c1, 0, 0⟩) [] ∧ Rws w W (two ⟨p0, b0, c0, x0, 0⟩ ⟨p1, b1, c1, 0, 0⟩) (.slice none 0 0) (.slice none 0 0) [] [] := by
  have hk2 : Keeps (fun _ => False) ((w.alloc zeroA).alloc zeroB) w2 := hK0.trans hK1
  obtain ⟨ha, hb⟩ := first_blocks w hk2
  have hkw : Keeps (fun _ => False) w w2 := (((Keeps.refl _ w).alloc _).alloc _).trans hk2
  have sz : w.heap.size + 2 ≤ w1.heap.size := by have := hK0.size; simp at this; omega
  have kW : Keeps (fun k => k = w.heap.size ∨ k = w.heap.size + 1) w2 W := by
    rw [hW]
    exact ((((Keeps.refl _ w2).setCell (p := ⟨w.heap.size, 0, none⟩) (.inr (.inl rfl)) _).setCell (p := ⟨w.heap.size, 1, none⟩) (.inr (.inl rfl)) _).setCell (p := ⟨w.heap.size + 1, 0, none⟩) (.inr (.inr rfl)) _).setCell (p := ⟨w.heap.size + 1, 1, none⟩) (.inr (.inr rfl)) _
  have l0 := hC0.ltp
  have l1 := hC0.ltb
  have l2 := hC0.ltc
  have hfx : ∀ k, Fx w (.slice none 0 0) (.slice none 0 0) k → k < w.heap.size + 2 := fun k hk => by
    rcases hk with hk | hk | hk
    · exact hk
    · cases hk
    · cases hk
  refine ⟨⟨fun i hi => ?_, (by intro d hd; simp at hd), fun i j hi hj hij k hk hk' => ?_, (by intro _ _ d hd; simp at hd), List.Pairwise.nil, fun i hi k hk hf => ?_, (by intro d hd; simp at hd)⟩, ⟨?_, ?_, ⟨rfl, .inl ⟨rfl, rfl⟩⟩, ⟨rfl, .inl ⟨rfl, rfl⟩⟩, (by intro g hg; simp [Value.ownBlock] at hg), ?_⟩⟩
  · rcases two_cases hi with rfl | rfl
    · exact (hC0.kept hK1 (fun _ _ f => f)).kept kW (fun k hk => by unfold own3 at hk; omega)
    · exact hC1.kept kW (fun k hk => by unfold own3 at hk; omega)
  · rcases two_cases hi with rfl | rfl <;> rcases two_cases hj with rfl | rfl <;> first | exact hij rfl | (simp [two, Clk.own, own3] at hk hk'; omega)
  · have := hfx k hf
    rcases two_cases hi with rfl | rfl <;> (simp [two, Clk.own, own3] at hk; omega)
  · rw [hW]
    rw [Below.heap_setCell _ _ _ _ (show w.heap.size ≠ w.heap.size + 1 by omega), Below.heap_setCell _ _ _ _ (show w.heap.size ≠ w.heap.size + 1 by omega)]
    rw [block_set (block_set ha 0 _) 1 _]
    rfl
  · rw [hW]
    have hb' : ((w2.setCell ⟨w.heap.size, 0, none⟩ (.pointer (some ⟨p0, 0, none⟩))).setCell ⟨w.heap.size, 1, none⟩ (.pointer (some ⟨p1, 0, none⟩))).heap[w.heap.size + 1]? = some zeroB :=
      (Below.heap_setCell _ _ _ _ (show w.heap.size + 1 ≠ w.heap.size by omega)).trans ((Below.heap_setCell _ _ _ _ (show w.heap.size + 1 ≠ w.heap.size by omega)).trans hb)
    rw [block_set (block_set hb' 0 _) 1 _]
    rfl
  · exact ⟨kW.os.trans hkw.os, kW.tape.trans hkw.tape, kW.output.trans hkw.output, Nat.le_trans hkw.size kW.size, fun i hi hf => (kW.block i (Nat.lt_of_lt_of_le hi hkw.size) (by omega)).trans (hkw.block i hi hf)⟩

theorem idx2 (on : Int) : ∃ i : Nat, i < 2 ∧ (wrap64 (on.tmod 2 + 2)).tmod 2 = (i : Int) := by
  have h : on.tmod 2 = -1 ∨ on.tmod 2 = 0 ∨ on.tmod 2 = 1 := by
    have h1 := Int.lt_tmod_of_pos on (show (0 : Int) < 2 by decide)
    have h2 := Int.tmod_lt_of_pos on (show (0 : Int) < 2 by decide)
    omega
  rcases h with h | h | h
  · exact ⟨1, by omega, by rw [h]; decide +kernel⟩
  · exact ⟨0, by omega, by rw [h]; decide +kernel⟩
  · exact ⟨1, by omega, by rw [h]; decide +kernel⟩

def atEnd (K : Act → World → Prop) : Exit → Act → World → Prop
  | .normal, a, w => K a w
  | _, _, _ => False

section
variable {P : Program} {ops : Array Oper} {Q : Exit → Act → World → Prop} {md : Region.Mode}
theorem held_take {S : World → Prop} {i : Nat} {oi : Oper} {v : Value} {K : Act → World → Prop} {fuel : Nat} {listed : Array Bool} {a : Act} {w : World} (d : Nat) (hi : ops[i]? = some oi) (hdst : oi.dst = some d)
    (hs : Region.noSelect ops = true) (hf : Region.free md ops listed i = true) (hr : (Region.ready md ops listed).contains i = true) (hw : Region.wanted oi (yielded ops a.tmps) = true)
    (hy : ∀ w', S w' → (execOp a.eval oi).run P w' = .ok (.value v) w') (hS : S w)
    (h : wpAnyH P md ops (atEnd K) S fuel (listed.setIfInBounds i true) (a.put (some d) v) w) : wpAnyH P md ops (atEnd K) S (fuel + 1) listed a w :=
  wpAnyH_take hi hs hf hr (fun _ _ _ h => h.elim) (.inl ⟨hw, hy⟩) hS (by rw [hdst]; exact h)
theorem held_one {S : World → Prop} {i : Nat} {o : Oper} {fuel : Nat} {listed : Array Bool} {a : Act} {w : World} {K : Act → World → Prop} (hr : Region.ready md ops listed = [i]) (ho : ops[i]? = some o) (hw : Region.wanted o (yielded ops a.tmps) = true)
    (h : o.wp P a w (fun a' w' => S w' ∧ wpAnyH P md ops (atEnd K) S fuel (listed.setIfInBounds i true) a' w') (atEnd K)) : wpAnyH P md ops (atEnd K) S (fuel + 1) listed a w :=
  wpAnyH_all hr (by simp) (fun j hj => by
    obtain rfl : j = i := by simpa using hj
    unfold wpOp
    simp only [ho, hw, if_true]
    exact .inl h)
theorem held_end {S : World → Prop} {listed : Array Bool} {a : Act} {w : World} {K : Act → World → Prop} (hr : Region.ready md ops listed = []) (h : K a w) (fuel : Nat) : wpAnyH P md ops (atEnd K) S fuel listed a w := wpAnyH_done hr h fuel
theorem held_val {S : World → Prop} {i : Nat} {o : Oper} {v : Value} {w' : World} {fuel : Nat} {listed : Array Bool} {a : Act} {w : World} {K : Act → World → Prop} (d : Option Nat) (hr : Region.ready md ops listed = [i]) (ho : ops[i]? = some o) (hdst : o.dst = d)
    (hw : Region.wanted o (yielded ops a.tmps) = true) (hrun : (execOp a.eval o).run P w = .ok (.value v) w') (hS : S w') (h : wpAnyH P md ops (atEnd K) S fuel (listed.setIfInBounds i true) (a.put d v) w') : wpAnyH P md ops (atEnd K) S (fuel + 1) listed a w := by
  refine held_one hr ho hw ?_
  unfold Oper.wp
  rw [hrun]
  show S w' ∧ wpAnyH P md ops (atEnd K) S fuel _ (a.put o.dst v) w'
  rw [hdst]
  exact ⟨hS, h⟩
theorem held_none {S : World → Prop} {i : Nat} {o : Oper} {w' : World} {fuel : Nat} {listed : Array Bool} {a : Act} {w : World} {K : Act → World → Prop} (hr : Region.ready md ops listed = [i]) (ho : ops[i]? = some o) (hdst : o.dst = none)
    (hw : Region.wanted o (yielded ops a.tmps) = true) (hrun : (execOp a.eval o).run P w = .ok .skip w') (hS : S w') (h : wpAnyH P md ops (atEnd K) S fuel (listed.setIfInBounds i true) a w') : wpAnyH P md ops (atEnd K) S (fuel + 1) listed a w := by
  refine held_one hr ho hw ?_
  unfold Oper.wp
  rw [hrun]
  show S w' ∧ wpAnyH P md ops (atEnd K) S fuel _ (a.put o.dst undef) w'
  rw [hdst]
  exact ⟨hS, h⟩
theorem wp_held_end {id : Nat} {a : Act} {w : World} {S : World → Prop} (N : Nat) (hN : ops.size = N) (hm : P.follows .mixedOrders = true)
    (h : wpAnyH P .any ops (atEnd (Q .normal)) S N (Array.replicate N false) a w.drew) : (Code.region id ops true).wp P Q a w := by
  subst hN
  exact Code.wp_mono (fun e a w h => by cases e <;> first | exact h | exact h.elim) (wp_region_held hm h)
end

/-- A step in a block of its own. -/
structure Stp (w : World) (n : Nat) (kd on s : Int) (nr : Bool) : Prop where
  at_ : w.heap[n]? = some (.cells #[.int .i64 kd, .int .i64 on, .int .u64 s, .bool nr] 34 (0, 0))
theorem Stp.c0 {w : World} {n : Nat} {kd on s : Int} {nr : Bool} (h : Stp w n kd on s nr) : w.cell? ⟨n, 0, none⟩ = some (.int .i64 kd) := cell_of_block h.at_ 0
theorem Stp.c1 {w : World} {n : Nat} {kd on s : Int} {nr : Bool} (h : Stp w n kd on s nr) : w.cell? ⟨n, 1, none⟩ = some (.int .i64 on) := cell_of_block h.at_ 1
theorem Stp.c2 {w : World} {n : Nat} {kd on s : Int} {nr : Bool} (h : Stp w n kd on s nr) : w.cell? ⟨n, 2, none⟩ = some (.int .u64 s) := cell_of_block h.at_ 2
theorem Stp.c3 {w : World} {n : Nat} {kd on s : Int} {nr : Bool} (h : Stp w n kd on s nr) : w.cell? ⟨n, 3, none⟩ = some (.bool nr) := cell_of_block h.at_ 3


section
variable {w W W2 : World} {f : Nat → Clk} {v u : Value} {L M : List Clk}

/-- The step that plays. -/
theorem played_step (hF : Fam W (Fx w v u) f L) (hR : Rws w W f v u M M) {i : Nat} (hi : i < 2) {n : Nat} {kd on s : Int} {nr : Bool} (hS : Stp W n kd on s nr) (hn : ∀ k, (f i).own k → k < n) (hn2 : w.heap.size + 1 < n) (s0 : 0 ≤ s) (s1 : s < 18446744073709551616) :
    ∀ W0, Like W0 W → Calls Try.prog 10 #[.pointer (some ⟨(f i).p, 0, none⟩), .pointer (some ⟨w.heap.size + 1, i * 2, none⟩), .agg #[.int .i64 kd, .int .i64 on, .int .u64 s, .bool nr]] W0 fun e w4 => e = .returned (.bool true) ∧
      (w4.cell? ⟨w.heap.size, i, none⟩ = some (.pointer (some ⟨(f i).p, 0, none⟩)) ∧ w4.cell? ⟨n, 0, none⟩ = some (.int .i64 kd) ∧ w4.cell? ⟨n, 1, none⟩ = some (.int .i64 on) ∧ w4.cell? ⟨n, 2, none⟩ = some (.int .u64 s) ∧ w4.cell? ⟨n, 3, none⟩ = some (.bool nr)) ∧ Hid (∃ f', Fam w4 (Fx w v u) f' L ∧ Rws w w4 f' v u M M) := fun W0 hl => by
  have hk0 : Keeps (fun _ => False) W W0 := hl.keeps'
  have hF0 := hF.keeps hk0 (fun _ f => f.elim)
  have hR0 := hR.same hk0
  have hx := hF0.cx i hi
  have hfar : far3 (f i).p (f i).b (f i).c (w.heap.size + 1) := by
    refine ⟨fun e => hx _ (.inl rfl) (.inl (by omega)), fun e => hx _ (.inr (.inl rfl)) (.inl (by omega)), fun e => hx _ (.inr (.inr rfl)) (.inl (by omega))⟩
  refine (plays_any 28 (f i).p (f i).b (f i).c (w.heap.size + 1) (i * 2) (blkOf f i) (f i).x (f i).st kd on s nr W0 ⟨hF0.c i hi, hR0.ref hi, Keeps.refl _ _⟩ hfar s0 s1).mono ?_
  rintro e w4 ⟨rfl, x', st', hB⟩
  have nn : ¬ (own3 (f i).p (f i).b (f i).c n ∨ n = w.heap.size + 1) := fun h => by
    rcases h with h | h
    · have := hn n h
      omega
    · omega
  have nc : ¬ (own3 (f i).p (f i).b (f i).c w.heap.size ∨ w.heap.size = w.heap.size + 1) := fun h => by
    rcases h with h | h
    · exact hx _ h (.inl (by omega))
    · omega
  have hS0 : Stp W0 n kd on s nr := ⟨(hk0.block _ (lt_of_block hS.at_) (fun f => f)).trans hS.at_⟩
  have hS4 : Stp w4 n kd on s nr := ⟨(hB.kp.block _ (lt_of_block hS0.at_) nn).trans hS0.at_⟩
  have c4 : w4.cell? ⟨w.heap.size, i, none⟩ = some (.pointer (some ⟨(f i).p, 0, none⟩)) := hB.kp.cell (a := ⟨w.heap.size, i, none⟩) nc (hR0.cellc hi)
  refine ⟨rfl, ⟨c4, hS4.c0, hS4.c1, hS4.c2, hS4.c3⟩, _, hF0.play hi (d := ⟨(f i).p, (f i).b, (f i).c, x', st'⟩) hB.clk rfl (hB.kp.mono fun k _ hk => ?_), hR0.played hi hx hB⟩
  rcases hk with hk | hk
  · exact .inl hk
  · exact .inr (.inl (by omega))

/-- Both rows with one more. -/
theorem pushed (hF : Fam W (Fx w v u) f L) (hR : Rws w W f v u M M) (d : Clk) (hm : M.length < 1000) :
    ∃ v' w', (Builtin.append_ #[29, 29] 29 #[v, .slice (some ⟨W.heap.size, 0, none⟩) 1 1]).run Try.prog (W.alloc (.cells #[.pointer (some ⟨d.p, 0, none⟩)] 24)) = .ok v' w' ∧ Rws w w' f v' u (M ++ [d]) M ∧
      ∃ u' w'', (Builtin.append_ #[30, 30] 30 #[u, .slice (some ⟨w'.heap.size, 0, none⟩) 1 1]).run Try.prog (w'.alloc (.cells #[.int .u64 d.x, .int .i64 d.st] 27)) = .ok u' w'' ∧ Rws w w'' f v' u' (M ++ [d]) (M ++ [d]) ∧ Fam w'' (Fx w v' u') f L := by
  obtain ⟨v', w', r1, hR1, k1, b1⟩ := hR.pushv d hm
  obtain ⟨u', w'', r2, hR2, k2, b2⟩ := hR1.pushu d hm
  refine ⟨v', w', r1, hR1, u', w'', r2, hR2, ?_⟩
  have hY : Fam W (fun k => Fx w v u k ∨ Fx w v' u' k) f L := hF.other (fun k hk hy => by
    rcases hy with hy | hy | hy | hy
    · exact hy
    · exact .inl hy
    · rcases b1 k hy with e | e
      · exact .inr (.inl e)
      · omega
    · rcases b2 k hy with e | e
      · exact .inr (.inr e)
      · have := k1.size
        omega)
  have hY1 := hY.keeps k1 (fun k hk => .inl (.inr (.inl hk)))
  have hY2 := hY1.keeps k2 (fun k hk => .inl (.inr (.inr hk)))
  exact hY2.other (fun k _ hy => .inr hy)

/-- A clock that goes on as its copy. -/
theorem copied_state (hF : Fam W (Fx w v u) f L) (hR : Rws w W f v u M M) {i : Nat} (hi : i < 2) {p b c : Nat} (hC : ClkAt W2 p b c (f i).x (f i).st) (hk : Keeps (fun _ => False) W W2) (lp : W.heap.size ≤ p) (lb : W.heap.size ≤ b) (lc : W.heap.size ≤ c) :
    Fam (W2.setCell ⟨w.heap.size, i, none⟩ (.pointer (some ⟨p, 0, none⟩))) (Fx w v u) (upf f i ⟨p, b, c, (f i).x, (f i).st⟩) (L ++ [f i]) ∧ Rws w (W2.setCell ⟨w.heap.size, i, none⟩ (.pointer (some ⟨p, 0, none⟩))) (upf f i ⟨p, b, c, (f i).x, (f i).st⟩) v u M M := by
  have hF2 := hF.fresh hi (d := ⟨p, b, c, (f i).x, (f i).st⟩) hC (fun k hk => by rcases hk with rfl | rfl | rfl <;> assumption) (fun k hk => hR.lt hk) hk
  refine ⟨hF2.keeps (S := fun k => k = w.heap.size) ((Keeps.refl (fun k => k = w.heap.size) W2).setCell (p := ⟨w.heap.size, i, none⟩) (.inr rfl) _) (fun k e => .inl (by omega)), (hR.same hk).copied hi⟩
end

theorem row_form {w W : World} {f : Nat → Clk} {v u : Value} {M N : List Clk} (h : Rws w W f v u M N) : ∃ a n, v = .slice a M.length n := by
  rcases h.ov.2 with ⟨e, e2⟩ | ⟨g', cap, cur, e, _⟩
  · exact ⟨none, 0, by rw [e, e2]⟩
  · exact ⟨_, _, e⟩

end Go.Proofs.Ytlldffbohojppaa
