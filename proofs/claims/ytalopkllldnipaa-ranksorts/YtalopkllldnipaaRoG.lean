
/- What the law RankErrors keeps, and how its calls fail (layer 24). No statement of the seat is proved here. -/
import Derived.Test.YtalopkllldnipaaRoFM
import Derived.Test.YtalopkllldnipaaRnOpen
import Derived.Test.YtalopkllldnipaaASeg
namespace Go.Proofs.Ytalopkllldnipaa
open Go.RowKit

theorem neg1 : (-1 : Int) < 0 := by decide
theorem WdAt.lies {w : World} {b g c : Nat} {s : Wd} (h : WdAt w b g c s) : Lies w (.slice (adr g c) s.W.length c) s.W := by
  refine ⟨_, _, rfl, fun i hi => ?_⟩
  have hc : c ≠ 0 := by have := h.cap; omega
  exact ⟨g, 0, adr_pos hc, by rw [Nat.zero_add]; exact h.wcell i hi⟩
theorem StepsAt.keeps {W W' : World} {a : Option Addr} {n : Nat} (h : StepsAt W a n) (k : Keeps (fun _ => False) W W') : StepsAt W' a n := fun j hj => by
  obtain ⟨g, off, rfl, kd, on, x, y, q1, q2, c0, c1, c2, c3⟩ := h j hj
  have hb := k.block g (World.block_lt_of_cell? _ _ c0) (fun f => f)
  exact ⟨g, off, rfl, kd, on, x, y, q1, q2, (World.cell?_of_block hb).trans c0, (World.cell?_of_block hb).trans c1, (World.cell?_of_block hb).trans c2, (World.cell?_of_block hb).trans c3⟩
set_option maxRecDepth 100000 in
set_option maxHeartbeats 4000000 in
theorem none_sl (a : Option Addr) (m : Nat) (e : Int) (w : World) : Calls Try.prog 14 #[.agg #[.float .f64 0, .int .u64 0, .bool false, .int .u64 0, .slice a 0 m, .int .i64 e]] w fun r w' => r = .returned (.bool true) ∧ Keeps (fun _ => False) w w' := by
  have oZ := ordZ
  go_enter Try.func14, Try.ntmps14
  go_wp2_with fail
  go_ret
  exact ⟨rfl, keeps_new w _⟩
/-- do, and what it answers is not looked at. -/
theorem do_ok {b g c : Nat} {s s1 : Wd} {r h o kd on bits wd e : Int} {R : Rt} (heq : Hid (callF r h o kd bits wd s = ((R, e), s1))) (hr : isW r) (hh : isW h) (ho : isW o) (hb : isW bits) (hw : isW wd) {w : World} (hd : WdAt w b g c s) :
    Calls Try.prog 11 #[.iface 24 (.pointer (some ⟨b, 0, none⟩)), .int .u64 r, .int .u64 h, .int .u64 o, .agg #[.int .i64 kd, .int .i64 on, .int .u64 bits, .int .u64 wd]] w fun a w' => (∃ n x y z l, a = .returned (.agg #[.float .f64 n, .int .u64 x, .bool y, .int .u64 z, l, .int .i64 e])) ∧ WdAt w' b g c s1 ∧ Keeps (two b g) w w' :=
  (do_any heq hr hh ho hb hw hd).mono fun _ _ ⟨_, _, _, h1, _, _, h2, k2⟩ => ⟨⟨_, _, _, _, _, h1⟩, h2, k2⟩
/-- do, refused by its tx. -/
theorem do_no {b g c : Nat} {s s1 : Wd} {r h o kd on bits wd e : Int} (heq : Hid (callF r h o kd bits wd s = ((rt0, e), s1))) (hr : isW r) (hh : isW h) (ho : isW o) (hb : isW bits) (hw : isW wd) {w : World} (hd : WdAt w b g c s) :
    Calls Try.prog 11 #[.iface 24 (.pointer (some ⟨b, 0, none⟩)), .int .u64 r, .int .u64 h, .int .u64 o, .agg #[.int .i64 kd, .int .i64 on, .int .u64 bits, .int .u64 wd]] w fun a w' => ∃ p m, a = .returned (.agg #[.float .f64 0, .int .u64 0, .bool false, .int .u64 0, .slice p 0 m, .int .i64 e]) ∧ WdAt w' b g c s1 ∧ Keeps (two b g) w w' :=
  (do_any heq hr hh ho hb hw hd).mono fun _ _ ⟨p, n, m, h1, _, hn, h2, k2⟩ => by
    obtain rfl : n = 0 := hn
    exact ⟨p, m, h1, h2, k2⟩
/-- So many accesses at most behind k calls. -/
def JB (k : Nat) : Nat := 100 + k * BC
theorem JB_succ (k : Nat) : JB (k + 1) = JB k + BC := by unfold JB; rw [Nat.succ_mul, Nat.add_assoc]
theorem JB_add {j k T : Nat} (h : j ≤ JB k) (hT : T ≤ BC) : j + T ≤ JB (k + 1) := by rw [JB_succ]; exact Nat.add_le_add h hT
theorem JB_top {j k : Nat} (h : j ≤ JB k) (hk : k ≤ 60) : j + BC < TOP := by
  unfold JB BC at *
  unfold TOP
  omega
/-- What the law keeps: the step, the two addresses, the cells. -/
structure Fe (w : World) (N b g c q8 : Nat) (kd on bits wo : Int) (X : World) (s : Wd) : Prop where
  wd : WdAt X b g c s
  f : s.f = -1
  k : Keeps (fun _ => False) w X
  st : Blk X w.heap.size 33 #[.int .i64 kd, .int .i64 on, .int .u64 bits, .int .u64 wo]
  ar : ArAt X q8 18 20
  lo : w.heap.size < b ∧ w.heap.size < g ∧ w.heap.size < q8 ∧ q8 ≠ b ∧ q8 ≠ g
  hi : b < N ∧ g < N ∧ q8 < N
  sz : N ≤ X.heap.size
structure Fg (N b g c : Nat) (X : World) (s : Wd) : Prop where
  wd : WdAt X b g c s
  hi : b < N ∧ g < N
  sz : N ≤ X.heap.size
section
variable {w X X' : World} {N b g c q8 : Nat} {kd on bits wd : Int} {s s' : Wd} {S : Nat → Prop}
theorem Fe.acc (h : Fe w N b g c q8 kd on bits wd X s) (k : Keeps (two b g) X X') (hw : WdAt X' b g c s') (hf : s'.f = -1) : Fe w N b g c q8 kd on bits wd X' s' := by
  have l := h.lo
  refine ⟨hw, hf, h.k.step k (fun i hi e => ?_), h.st.kept k ?_, h.ar.keeps k ?_, h.lo, h.hi, Nat.le_trans h.sz k.size⟩
  · rcases e with e | e <;> omega
  · rintro (e | e) <;> omega
  · rintro (e | e)
    · exact l.2.2.2.1 e
    · exact l.2.2.2.2 e
theorem Fe.own (h : Fe w N b g c q8 kd on bits wd X s) (k : Keeps S X X') (hS : ∀ i, S i → N ≤ i) : Fe w N b g c q8 kd on bits wd X' s := by
  have l := h.lo
  have l2 := h.hi
  refine ⟨h.wd.kept k (fun e => by have := hS _ e; omega) (fun e => by have := hS _ e; omega), h.f, h.k.step k (fun i hi e => by have := hS _ e; omega), h.st.kept k (fun e => by have := hS _ e; omega), h.ar.keeps k (fun e => by have := hS _ e; omega), h.lo, h.hi, Nat.le_trans h.sz k.size⟩
theorem Fe.new (h : Fe w N b g c q8 kd on bits wd X s) (k : Keeps (fun _ => False) X X') : Fe w N b g c q8 kd on bits wd X' s := h.own k (fun _ f => f.elim)
theorem Fe.s0 (h : Fe w N b g c q8 kd on bits wd X s) : X.cell? ⟨w.heap.size, 0, none⟩ = some (.int .i64 kd) := h.st.cell rfl
theorem Fe.s1 (h : Fe w N b g c q8 kd on bits wd X s) : X.cell? ⟨w.heap.size, 1, none⟩ = some (.int .i64 on) := h.st.cell rfl
theorem Fe.s2 (h : Fe w N b g c q8 kd on bits wd X s) : X.cell? ⟨w.heap.size, 2, none⟩ = some (.int .u64 bits) := h.st.cell rfl
theorem Fe.s3 (h : Fe w N b g c q8 kd on bits wd X s) : X.cell? ⟨w.heap.size, 3, none⟩ = some (.int .u64 wd) := h.st.cell rfl
theorem Fg.own (h : Fg N b g c X s) (k : Keeps S X X') (hS : ∀ i, S i → N ≤ i) : Fg N b g c X' s := by
  have l := h.hi
  exact ⟨h.wd.kept k (fun e => by have := hS _ e; omega) (fun e => by have := hS _ e; omega), h.hi, Nat.le_trans h.sz k.size⟩
theorem Fg.new (h : Fg N b g c X s) (k : Keeps (fun _ => False) X X') : Fg N b g c X' s := h.own k (fun _ f => f.elim)
end
end Go.Proofs.Ytalopkllldnipaa
