/-
  No statement of the seat is proved here. (Several texts in one: LyYb, LyYc, LyYd.)
-/
import Derived.Test.YtmnbilhblkobdaaLyY
import Derived.Test.YtmnbilhblkobdaaARoundD

/- A round of ListPlays: the document's reply, in a statement that leaves its order open (layer 21). No statement of the seat is proved here. -/
namespace Go.Proofs.Ytmnbilhblkobdaa
open Go.RowKit

/-- What is read in the round. -/
structure S15 (W : World) (q11 q9 kk : Nat) (kd on key : Int) (v : Value) : Prop where
  f0 : W.cell? ⟨q11, 0, none⟩ = some (.int .i64 kd)
  f1 : W.cell? ⟨q11, 1, none⟩ = some (.int .i64 on)
  f2 : W.cell? ⟨q11, 2, none⟩ = some (.int .u64 key)
  f3 : W.cell? ⟨q9, kk, none⟩ = some v
theorem s15_of {W : World} {q11 q9 kk : Nat} {kd on key : Int} {v : Value} (h : W.heap[q11]? = some (.cells #[.int .i64 kd, .int .i64 on, .int .u64 key] 33 (0, 0))) (hv : W.cell? ⟨q9, kk, none⟩ = some v) : S15 W q11 q9 kk kd on key v :=
  ⟨by rw [cell_of_block h]; rfl, by rw [cell_of_block h]; rfl, by rw [cell_of_block h]; rfl, hv⟩
theorem S15.keeps {W W' : World} {q11 q9 kk : Nat} {kd on key : Int} {v : Value} (d : S15 W q11 q9 kk kd on key v) (k : Keeps (fun _ => False) W W') : S15 W' q11 q9 kk kd on key v := by
  have b0 := k.block q11 (World.block_lt_of_cell? _ _ d.f0) (fun f => f)
  have b9 := k.block q9 (World.block_lt_of_cell? _ _ d.f3) (fun f => f)
  exact ⟨(World.cell?_of_block b0).trans d.f0, (World.cell?_of_block b0).trans d.f1, (World.cell?_of_block b0).trans d.f2, (World.cell?_of_block b9).trans d.f3⟩
def rp0 : Obj := .cells #[.int .u64 0, .bool false, .slice none 0 0, .int .i64 0] 38
/-- A row that has something lies in another block. -/
def Off (v : Value) (L : List Int) (q : Nat) : Prop := ∀ a m c, v = .slice (some a) m c → 0 < L.length → a.block ≠ q
theorem Lies.off {X X' : World} {v : Value} {L : List Int} {q : Nat} (h : Lies X v L) (ho : Off v L q) (k : Keeps (fun i => i = q) X X') : Lies X' v L := by
  obtain ⟨a, c, rfl, hc⟩ := h
  refine ⟨a, c, rfl, fun i hi => ?_⟩
  obtain ⟨g, off, rfl, hcell⟩ := hc i hi
  exact ⟨g, off, rfl, (World.cell?_of_block (k.block g (World.block_lt_of_cell? _ _ hcell) (ho _ _ _ rfl (by omega)))).trans hcell⟩
theorem Lies.off_end {X : World} {v : Value} {L : List Int} (h : Lies X v L) : Off v L X.heap.size := by
  intro a m c e h0
  obtain ⟨a', c', e', hc⟩ := h
  rw [e'] at e
  injection e with e1 _ _
  subst e1
  obtain ⟨g, off, e2, hcell⟩ := hc 0 h0
  cases e2
  have := World.block_lt_of_cell? _ _ hcell
  simp only at this ⊢
  omega
theorem Near.off {w0 w : World} {v u : Value} {K L : List Int} {q : Nat} (h : Near w v u) (hv : KR w0 v K) (hq : q < w.heap.size) (h0 : w0.heap.size ≤ q) : Off u L q := by
  intro a m c e _
  rcases h a m c e with p | ⟨n', c', p⟩
  · omega
  · rcases hv with ⟨z, _⟩ | ⟨g, c2, z, _, _, hcell⟩
    · rw [z] at p; cases p
    · rw [z] at p
      injection p with p1 _ _
      injection p1 with p1
      subst p1
      have := World.block_lt_of_cell? _ _ (hcell 0 (by assumption))
      simp only at this ⊢
      omega
structure R15 (w1 : World) (q9 : Nat) (K : List Int) (kind key : Int) (sp : Bool) (q : Nat) (i : Nat) (v1 v2 : Value) (X : World) : Prop where
  pl : Pl K key i
  l1 : Lies X v1 (ansR K kind key sp i).L
  l2 : Lies X v2 (ansK K kind key sp i)
  a1 : Ab q9 v1
  a2 : Ab q9 v2
  d1 : Off v1 (ansR K kind key sp i).L q
  d2 : Off v2 (ansK K kind key sp i) q
  k : Keeps (fun _ => False) w1 X
  lo : w1.heap.size ≤ q
  at_ : RpAt X q 0 false (.slice none 0 0) 0
def R15v (w1 : World) (q9 : Nat) (K : List Int) (kind key : Int) (sp : Bool) (q : Nat) (y z : Value) (X : World) : Prop := ∃ i v1, y = .agg #[.int .u64 (ansR K kind key sp i).w, .bool (ansR K kind key sp i).h, v1, .int .i64 (ansR K kind key sp i).e] ∧ R15 w1 q9 K kind key sp q i v1 z X
theorem r15_a {vk : Value} {K : List Int} {kind on key : Int} {sp : Bool} (hK : K.length ≤ 1000) {w1 : World} {q9 q11 kk : Nat} (hv : KR w1 vk K) (ha : Ab q9 vk) (hq : q9 < w1.heap.size) (hS : S15 w1 q11 q9 kk kind on key vk) :
    Calls Try.prog 7 #[vk, .agg #[.int .i64 kind, .int .i64 on, .int .u64 key], .bool sp] (w1.alloc rp0) fun e w' => ∃ y z, e = .returned (.tuple #[y, z]) ∧ S15 w' q11 q9 kk kind on key vk ∧ R15v w1 q9 K kind key sp w1.heap.size y z w' := by
  have kn := keeps_new w1 rp0
  refine (answer_any vk K kind on key sp hK _ (hv.keeps kn)).mono ?_
  rintro e w' ⟨i, v1, v2, hi, rfl, l1, l2, n1, n2, k⟩
  have hs : (w1.alloc rp0).heap.size = w1.heap.size + 1 := by simp
  exact ⟨_, _, rfl, hS.keeps (kn.trans k), i, v1, rfl, hi, l1, l2, n1.ab ha (by omega), n2.ab ha (by omega), n1.off hv (by omega) (Nat.le_refl _), n2.off hv (by omega) (Nat.le_refl _), kn.trans k, Nat.le_refl _, RpAt.keeps (e := 0) (alloc_block w1 rp0) k (fun f => f)⟩
theorem r15_b {vk : Value} {K : List Int} {kind on key : Int} {sp : Bool} (hK : K.length ≤ 1000) {w1 : World} {q9 q11 kk : Nat} (hv : KR w1 vk K) (ha : Ab q9 vk) (hq : q9 < w1.heap.size) (hS : S15 w1 q11 q9 kk kind on key vk) :
    Calls Try.prog 7 #[vk, .agg #[.int .i64 kind, .int .i64 on, .int .u64 key], .bool sp] w1 fun e w' => ∃ y z, e = .returned (.tuple #[y, z]) ∧ S15 w' q11 q9 kk kind on key vk ∧ R15v w1 q9 K kind key sp w'.heap.size y z (w'.alloc rp0) := by
  refine (answer_any vk K kind on key sp hK _ hv).mono ?_
  rintro e w' ⟨i, v1, v2, hi, rfl, l1, l2, n1, n2, k⟩
  have kn := keeps_new w' rp0
  exact ⟨_, _, rfl, hS.keeps k, i, v1, rfl, hi, l1.keeps kn (fun _ _ _ _ f => f), l2.keeps kn (fun _ _ _ _ f => f), n1.ab ha hq, n2.ab ha hq, l1.off_end, l2.off_end, k.trans kn, k.size, alloc_block w' rp0⟩
end Go.Proofs.Ytmnbilhblkobdaa


/- A round of ListPlays: the state behind the document's reply, and behind the call (layer 21). No statement of the seat is proved here. -/
namespace Go.Proofs.Ytmnbilhblkobdaa
open Go.RowKit

theorem Wr.set {X : World} {B : Nat} {v : Value} {L : List Int} (h : Wr X B v L) {k g : Nat} (hk : k < L.length) (hg : v.ownBlock = some g) (x : Int) : Wr (X.setCell ⟨g, k, none⟩ (.int .u64 x)) B v (L.set k x) := by
  rcases h.2 with ⟨_, e⟩ | ⟨g', cap, cur, e, q1, q2, q3, q4, q5, q6⟩
  · omega
  · have e2 : g' = g := by rw [e] at hg; exact Option.some.inj hg
    subst e2
    refine ⟨by simp [wordsV], .inr ⟨g', cap, cur.setIfInBounds k (.int .u64 x), by rw [List.length_set]; exact e, q1, block_set q2 k _, by rw [List.length_set]; exact q3, q4, by simp; omega, ?_⟩⟩
    rw [List.length_set, Array.toList_setIfInBounds, List.take_set, q6]
    unfold wordsV
    rw [List.map_set]
theorem Wr.blk {X : World} {B g : Nat} {v : Value} {L : List Int} (h : Wr X B v L) (hg : v.ownBlock = some g) : B ≤ g ∧ g < X.heap.size ∧ ∀ i, X.frozen? ⟨g, i, none⟩ = false := by
  rcases h.2 with ⟨e, _⟩ | ⟨g', cap, cur, e, q1, q2, _⟩
  · rw [e] at hg; cases hg
  · have e2 : g' = g := by rw [e] at hg; exact Option.some.inj hg
    subst e2
    exact ⟨q1, lt_of_block q2, fun i => frozen_of_block q2 i⟩
theorem Wr.at_ {X : World} {B : Nat} {v : Value} {L : List Int} (h : Wr X B v L) {k : Nat} (hk : k < L.length) : ∃ g c, v = .slice (some ⟨g, 0, none⟩) L.length c ∧ X.cell? ⟨g, k, none⟩ = some (.int .u64 (oat L k)) := by
  rcases id h.2 with ⟨_, e⟩ | ⟨g', cap, cur, e, q1, q2, _⟩
  · omega
  · subst e
    refine ⟨g', cap, rfl, ?_⟩
    have q := World.ownsRow.cellAt h k (by omega)
    rw [q]
    simp [wordsV, oat, hk]
/-- append([]uint64(nil), v...), as a row of keys. -/
theorem app_nilK (w : World) (v : Value) (xs : List Int) (hr : Lies w v xs) (hb : xs.length ≤ 1000000) :
    ∃ u w', (Builtin.append_ #[30, 30] 30 #[.slice none 0 0, v]).run Try.prog w = .ok u w' ∧ Keeps (fun _ => False) w w' ∧ KR w' u xs ∧ ∀ lo, lo < w.heap.size → Ab lo u := by
  by_cases hx : xs = []
  · subst hx
    obtain ⟨i0, hi, hz0, hz1, hz2⟩ := info_parts info_word
    obtain ⟨sp, c, rfl, hc⟩ := hr
    have hsrc : Src Try.prog i0.size 30 (.slice sp 0 c) 0 [] w := by
      cases sp with
      | none => exact Src.ofNil w (e' := 25) Try.underlying30 c
      | some a => exact Src.ofSlice w (e' := 25) Try.underlying30 a 0 c [] (by simp) (fun j u hj => by simp at hj) (by simp)
    exact ⟨.slice none 0 0, w, run_append_nothing w 30 30 30 25 i0 Try.underlying30 hi none 0 0 (Nat.le_refl _) _ hsrc, Keeps.refl _ _, .inl ⟨rfl, rfl⟩, fun lo _ a m c e => by cases e⟩
  · have hl : 0 < xs.length := List.length_pos_iff.2 hx
    obtain ⟨g, c, w', r1, k1, hc, hw, hg⟩ := app_nil w v xs hr hb
    have hc0 : c ≠ 0 := by omega
    rcases hg with h0 | ⟨hg1, cur, hg2, hg3⟩
    · exact absurd h0 hc0
    · refine ⟨_, w', r1, k1, .inr ⟨g, c, by rw [adr_pos hc0], hl, hc, fun i hi => ?_⟩, fun lo hlo a m c' e => ?_⟩
      · rw [cell_of_block hg2]; exact hg3 i hi
      · rw [adr_pos hc0] at e
        cases e
        exact Nat.lt_of_lt_of_le hlo hg1

/-- Behind the document's reply. -/
structure Z2 (w : World) (b g c q7 q9 q11 q17 m kk : Nat) (kd on key : Int) (s : Wd) (v0 v1 : Value) (N0 N1 : List (Nat × Int)) (RR : Rp) (wl zl bf : Value) (K2 : List Int) (Y : World) : Prop where
  pw : Pw w b g c q7 q9 Y Y s v0 v1
  pk : Pk Y q9 m s.W v0 v1 N0 N1
  lb : Lies Y bf s.W
  ab : Ab q9 bf
  lw : Lies Y wl RR.L
  aw : Ab q9 wl
  lz : Lies Y zl K2
  az : Ab q9 zl
  wt : RpAt Y q17 RR.w RR.h wl RR.e
  f0 : Y.cell? ⟨q11, 0, none⟩ = some (.int .i64 kd)
  f1 : Y.cell? ⟨q11, 1, none⟩ = some (.int .i64 on)
  f2 : Y.cell? ⟨q11, 2, none⟩ = some (.int .u64 key)
  o17 : q9 < q17
  o11 : q9 < q11
/-- What is read for the call. -/
structure S16 (W : World) (q11 q7 kk : Nat) (kd on key : Int) : Prop where
  f0 : W.cell? ⟨q11, 0, none⟩ = some (.int .i64 kd)
  f1 : W.cell? ⟨q11, 1, none⟩ = some (.int .i64 on)
  f2 : W.cell? ⟨q11, 2, none⟩ = some (.int .u64 key)
  f7 : W.cell? ⟨q7, kk, none⟩ = some (.int .u64 (ky kk 18 20))
theorem S16.keeps {S : Nat → Prop} {W W' : World} {q11 q7 kk : Nat} {kd on key : Int} (h : S16 W q11 q7 kk kd on key) (k : Keeps S W W') (h1 : ¬ S q11) (h2 : ¬ S q7) : S16 W' q11 q7 kk kd on key := by
  have b0 := k.block q11 (World.block_lt_of_cell? _ _ h.f0) h1
  have b7 := k.block q7 (World.block_lt_of_cell? _ _ h.f7) h2
  exact ⟨(World.cell?_of_block b0).trans h.f0, (World.cell?_of_block b0).trans h.f1, (World.cell?_of_block b0).trans h.f2, (World.cell?_of_block b7).trans h.f7⟩
/-- Behind the call. -/
structure Z3 (w : World) (b g c q7 q9 q19 : Nat) (Y Z : World) (s : Wd) (v0 v1 : Value) (x : Int) (h : Bool) (vL : Value) (e : Int) (L : List Int) : Prop where
  pw : Pw w b g c q7 q9 Y Z s v0 v1
  gt : RpAt Z q19 x h vL e
  gl : Wr Z Y.heap.size vL L
  gn : vL.ownBlock ≠ some q19
  lo : Y.heap.size ≤ q19
/-- What the call and the new box come to. -/
def R16v (w : World) (b g c q7 q9 : Nat) (Y : World) (s : Wd) (v0 v1 : Value) (R : Rp) (q : Nat) (y : Value) (X : World) : Prop := ∃ vL, y = .agg #[.int .u64 R.w, .bool R.h, vL, .int .i64 R.e] ∧ Pw w b g c q7 q9 Y X s v0 v1 ∧ RpAt X q 0 false (.slice none 0 0) 0 ∧ Wr X Y.heap.size vL R.L ∧ vL.ownBlock ≠ some q ∧ Y.heap.size ≤ q
section
variable {w Y Z Z' : World} {b g c q7 q9 q11 q17 q19 m kk : Nat} {kd on key : Int} {s s1 : Wd} {v0 v1 : Value} {N0 N1 : List (Nat × Int)} {RR R : Rp} {wl zl bf : Value} {K2 : List Int} {x e : Int} {h : Bool} {vL : Value} {L : List Int}
theorem Z2.s16 (z : Z2 w b g c q7 q9 q11 q17 m kk kd on key s v0 v1 N0 N1 RR wl zl bf K2 Y) (hk : kk < 2) : S16 Y q11 q7 kk kd on key := ⟨z.f0, z.f1, z.f2, z.pw.a kk hk⟩
theorem ky_isW {kk : Nat} (hk : kk < 2) : isW (ky kk 18 20 : Int) := by
  rcases (show kk = 0 ∨ kk = 1 by omega) with rfl | rfl <;> exact ⟨by decide, by decide⟩
theorem r16_a (z : Z2 w b g c q7 q9 q11 q17 m kk kd on key s v0 v1 N0 N1 RR wl zl bf K2 Y) (hk : kk < 2) (hf : s.f < 0) (hkey : isW key) (heq : Hid (s.call 0 (ky kk 18 20) kd key = (R, s1))) :
    Calls Try.prog 8 #[.iface 24 (.pointer (some ⟨b, 0, none⟩)), .int .u64 0, .int .u64 (ky kk 18 20), .agg #[.int .i64 kd, .int .i64 on, .int .u64 key]] (Y.alloc rp0) fun e w' => ∃ v, e = .returned v ∧ R16v w b g c q7 q9 Y s1 v0 v1 R Y.heap.size v w' := by
  have kn := keeps_new Y rp0
  have l := z.pw.lo
  have hi := z.pw.hi
  refine (do_r heq zero_isW (ky_isW hk) hkey (.inr hf) (z.pw.new kn).wd).mono ?_
  rintro e_ w' ⟨v, rfl, hv, hd, k⟩
  have hs : (Y.alloc rp0).heap.size = Y.heap.size + 1 := by simp
  rw [hs] at hv
  exact ⟨_, rfl, v, rfl, (z.pw.new kn).acc k hd, RpAt.keeps (e := 0) (alloc_block Y rp0) k (by rintro (e | e) <;> omega), hv.base (by omega), fun q => by have := (hv.blk q).1; omega, Nat.le_refl _⟩
theorem r16_b (z : Z2 w b g c q7 q9 q11 q17 m kk kd on key s v0 v1 N0 N1 RR wl zl bf K2 Y) (hk : kk < 2) (hf : s.f < 0) (hkey : isW key) (heq : Hid (s.call 0 (ky kk 18 20) kd key = (R, s1))) :
    Calls Try.prog 8 #[.iface 24 (.pointer (some ⟨b, 0, none⟩)), .int .u64 0, .int .u64 (ky kk 18 20), .agg #[.int .i64 kd, .int .i64 on, .int .u64 key]] Y fun e w' => ∃ v, e = .returned v ∧ S16 w' q11 q7 kk kd on key ∧ R16v w b g c q7 q9 Y s1 v0 v1 R w'.heap.size v (w'.alloc rp0) := by
  have l := z.pw.lo
  have o := z.o11
  refine (do_r heq zero_isW (ky_isW hk) hkey (.inr hf) z.pw.wd).mono ?_
  rintro e_ w' ⟨v, rfl, hv, hd, k⟩
  have kn := keeps_new w' rp0
  exact ⟨_, rfl, (z.s16 hk).keeps k (by rintro (e | e) <;> omega) (by rintro (e | e) <;> omega), v, rfl, (z.pw.acc k hd).new kn, alloc_block w' rp0, hv.keeps kn (fun _ f => f.elim), fun q => by have := (hv.blk q).2.1; omega, k.size⟩
theorem Z3.of (r : R16v w b g c q7 q9 Y s v0 v1 R q19 (.agg #[.int .u64 R.w, .bool R.h, vL, .int .i64 R.e]) Z) : Z3 w b g c q7 q9 q19 Y ((((Z.setCell ⟨q19, 0, none⟩ (.int .u64 R.w)).setCell ⟨q19, 1, none⟩ (.bool R.h)).setCell ⟨q19, 2, none⟩ vL).setCell ⟨q19, 3, none⟩ (.int .i64 R.e)) s v0 v1 R.w R.h vL R.e R.L := by
  obtain ⟨v, e1, h1, h2, h3, h4, h5⟩ := r
  simp only [Value.agg.injEq, Array.mk.injEq, List.cons.injEq, and_true, true_and] at e1
  subst e1
  have k := (((keeps_cell Z q19 0 (.int .u64 R.w)).trans (keeps_cell _ q19 1 (.bool R.h))).trans (keeps_cell _ q19 2 vL)).trans (keeps_cell _ q19 3 (.int .i64 R.e))
  refine ⟨h1.own k (fun i e => by subst e; exact h5), (((h2.set0 _).set1 _).set2 _).set3 _, ?_, h4, h5⟩
  rcases id h3.2 with ⟨p, p2⟩ | ⟨g', cap, cur, p, q1, q2, q3⟩
  · exact ⟨h3.1, .inl ⟨p, p2⟩⟩
  · refine ⟨h3.1, .inr ⟨g', cap, cur, p, q1, ?_, q3⟩⟩
    exact (k.block g' (lt_of_block q2) (fun e => h4 (by rw [p]; exact congrArg some e))).trans q2
theorem Wr.beside {S : Nat → Prop} {B : Nat} (hr : Wr Z B vL L) (k : Keeps S Z Z') (hS : ∀ i, vL.ownBlock = some i → ¬ S i) : Wr Z' B vL L := by
  rcases id hr.2 with ⟨p, p2⟩ | ⟨g', cap, cur, p, q1, q2, q3⟩
  · exact ⟨hr.1, .inl ⟨p, p2⟩⟩
  · refine ⟨hr.1, .inr ⟨g', cap, cur, p, q1, ?_, q3⟩⟩
    exact (k.block g' (lt_of_block q2) (hS g' (by rw [p]; rfl))).trans q2
theorem Z3.new (z : Z3 w b g c q7 q9 q19 Y Z s v0 v1 x h vL e L) (k : Keeps (fun _ => False) Z Z') : Z3 w b g c q7 q9 q19 Y Z' s v0 v1 x h vL e L :=
  ⟨z.pw.new k, z.gt.keeps k (fun f => f), z.gl.beside k (fun _ _ f => f), z.gn, z.lo⟩
theorem Z3.put7 (z : Z3 w b g c q7 q9 q19 Y Z s v0 v1 x h vL e L) (hk : kk < 2) : Z3 w b g c q7 q9 q19 Y (Z.setCell ⟨q7, kk, none⟩ (.int .u64 (ky kk 18 20))) s v0 v1 x h vL e L := by
  have l := z.pw.lo
  have hi := z.pw.hi
  have hz := z.lo
  have k := keeps_cell Z q7 kk (.int .u64 (ky kk 18 20))
  exact ⟨z.pw.put7 kk hk, z.gt.keeps k (by omega), z.gl.beside k (fun i hi2 e => by have := (z.gl.blk hi2).1; omega), z.gn, z.lo⟩
theorem Z3.x0 (z : Z3 w b g c q7 q9 q19 Y Z s v0 v1 x h vL e L) (x' : Int) : Z3 w b g c q7 q9 q19 Y (Z.setCell ⟨q19, 0, none⟩ (.int .u64 x')) s v0 v1 x' h vL e L := by
  have k := keeps_cell Z q19 0 (.int .u64 x')
  have hz := z.lo
  exact ⟨z.pw.own k (fun i e => by omega), z.gt.set0 x', z.gl.beside k (fun i hi2 e => z.gn (by rw [hi2, e])), z.gn, z.lo⟩
theorem Z3.put (z : Z3 w b g c q7 q9 q19 Y Z s v0 v1 x h vL e L) {j gv : Nat} (hj : j < L.length) (hg : vL.ownBlock = some gv) (y : Int) : Z3 w b g c q7 q9 q19 Y (Z.setCell ⟨gv, j, none⟩ (.int .u64 y)) s v0 v1 x h vL e (L.set j y) := by
  have k := keeps_cell Z gv j (.int .u64 y)
  have hb := (z.gl.blk hg).1
  exact ⟨z.pw.own k (fun i e => by omega), z.gt.keeps k (fun e => z.gn (by rw [hg, e])), z.gl.set hj hg y, z.gn, z.lo⟩
/-- What lay behind the document's reply, still. -/
theorem Z3.cell (z2 : Z2 w b g c q7 q9 q11 q17 m kk kd on key s1 v0 v1 N0 N1 RR wl zl bf K2 Y) (z : Z3 w b g c q7 q9 q19 Y Z s v0 v1 x h vL e L) : Z.cell? ⟨q11, 0, none⟩ = some (.int .i64 kd) :=
  (World.cell?_of_block (z.pw.kh.same q11 z2.o11 (World.block_lt_of_cell? _ _ z2.f0))).trans z2.f0
theorem Z3.wt (z2 : Z2 w b g c q7 q9 q11 q17 m kk kd on key s1 v0 v1 N0 N1 RR wl zl bf K2 Y) (z : Z3 w b g c q7 q9 q19 Y Z s v0 v1 x h vL e L) : RpAt Z q17 RR.w RR.h wl RR.e :=
  (z.pw.kh.same q17 z2.o17 (lt_of_block z2.wt)).trans z2.wt
theorem Z3.lw (z2 : Z2 w b g c q7 q9 q11 q17 m kk kd on key s1 v0 v1 N0 N1 RR wl zl bf K2 Y) (z : Z3 w b g c q7 q9 q19 Y Z s v0 v1 x h vL e L) : Lies Z wl RR.L := z2.lw.kh z2.aw z.pw.kh
theorem Z3.lz (z2 : Z2 w b g c q7 q9 q11 q17 m kk kd on key s1 v0 v1 N0 N1 RR wl zl bf K2 Y) (z : Z3 w b g c q7 q9 q19 Y Z s v0 v1 x h vL e L) : Lies Z zl K2 := z2.lz.kh z2.az z.pw.kh
theorem Z3.lb (z2 : Z2 w b g c q7 q9 q11 q17 m kk kd on key s1 v0 v1 N0 N1 RR wl zl bf K2 Y) (z : Z3 w b g c q7 q9 q19 Y Z s v0 v1 x h vL e L) : Lies Z bf s1.W := z2.lb.kh z2.ab z.pw.kh
theorem Z2.new (z : Z2 w b g c q7 q9 q11 q17 m kk kd on key s v0 v1 N0 N1 RR wl zl bf K2 Y) (k : Keeps (fun _ => False) Y Z) : Z2 w b g c q7 q9 q11 q17 m kk kd on key s v0 v1 N0 N1 RR wl zl bf K2 Z := by
  have e := k.block q11 (World.block_lt_of_cell? _ _ z.f0) (fun f => f)
  exact ⟨(z.pw.new k).base, z.pk.kh ((KH.refl _ Y).step k (fun _ f => f.elim)), z.lb.keeps k (fun _ _ _ _ f => f), z.ab, z.lw.keeps k (fun _ _ _ _ f => f), z.aw, z.lz.keeps k (fun _ _ _ _ f => f), z.az, z.wt.keeps k (fun f => f), (World.cell?_of_block e).trans z.f0, (World.cell?_of_block e).trans z.f1, (World.cell?_of_block e).trans z.f2, z.o17, z.o11⟩
theorem pw_s16 (z2 : Z2 w b g c q7 q9 q11 q17 m kk kd on key s1 v0 v1 N0 N1 RR wl zl bf K2 Y) (hk : kk < 2) (p : Pw w b g c q7 q9 Y Z s v0 v1) : S16 Z q11 q7 kk kd on key := by
  have e := p.kh.same q11 z2.o11 (World.block_lt_of_cell? _ _ z2.f0)
  exact ⟨(World.cell?_of_block e).trans z2.f0, (World.cell?_of_block e).trans z2.f1, (World.cell?_of_block e).trans z2.f2, p.a kk hk⟩
end
end Go.Proofs.Ytmnbilhblkobdaa


/- A round of ListPlays: what the call has come to, held against the document's reply (layer 21), pure. No statement of the seat is proved here. -/
namespace Go.Proofs.Ytmnbilhblkobdaa
open Go.RowKit

theorem pl_uniq {l : List Int} {key : Int} {i j : Nat} (h : Pl l key i) (h' : Pl l key j) : i = j := by
  rcases Nat.lt_trichotomy i j with q | q | q
  · have a := h'.2.1 i q
    have b := h.2.2 (by have := h'.1; omega)
    omega
  · exact q
  · have a := h.2.1 j q
    have b := h'.2.2 (by have := h.1; omega)
    omega
theorem ansR_e (K : List Int) (kind key : Int) (sp : Bool) (i : Nat) : (ansR K kind key sp i).e = 0 ∨ (kind = 1 ∧ (ansR K kind key sp i).e = 9) := by
  unfold ansR
  by_cases h1 : kind = 1
  · rw [if_pos h1]
    split
    · exact .inl rfl
    · split
      · exact .inl rfl
      · exact .inr ⟨h1, rfl⟩
  · rw [if_neg h1]
    refine .inl ?_
    repeat' split
    all_goals rfl
theorem lkB_iff (k : Int) : lkB k = true ↔ (k < 1 ∨ (3 ≤ k ∧ k ≤ 7) ∨ 9 < k) := by
  unfold lkB
  simp only [Bool.or_eq_true, Bool.and_eq_true, decide_eq_true_eq]
  omega
/-- What the call has come to. -/
structure Pz (m kk : Nat) (kd key : Int) (s s1 : Wd) (R RR : Rp) (N0 N1 : List (Nat × Int)) (K2 : List Int) : Prop where
  f : s1.f = -1
  rm : ∃ M F, Rm2 s1.W m (ky kk 18 20) M (ky kk 20 18) (ky kk N1 N0) F ∧ M.map Prod.snd = K2
  rep : RR = ⟨if kd = 9 then 0 else R.w, R.h, R.L, R.e⟩
  nine : kd = 9 → R.w = (ky kk 18 20 : Int) ∧ R.e = 0 ∧ lkB kd = false
  look : lkB kd = true → s1.p = s.p ∧ R.e = 0
  err : R.e ≠ 0 → s1.p = s.p ∧ s1.W = s.W ∧ lkB kd = false ∧ kd ≠ 9
  len : R.L.length ≤ 1000
theorem pz_of {X1 : World} {q9 m kk ix : Nat} {kd key : Int} {s s1 : Wd} {R RR : Rp} {v0 v1 : Value} {N0 N1 : List (Nat × Int)} {sp : Bool} (hp : Pk X1 q9 m s.W v0 v1 N0 N1) (hk : kk < 2) (hf : s.f = -1) (hkey : isW key) (hpl : Pl ((ky kk N0 N1).map Prod.snd) key ix)
    (hsp : decide ((N0.length : Int) + (N1.length : Int) < ((m - 22 : Nat) : Int) / 2) = sp) (hcall : s.call 0 (ky kk 18 20 : Int) kd key = (R, s1)) (hRR : ansR ((ky kk N0 N1).map Prod.snd) kd key sp ix = RR) : Pz m kk kd key s s1 R RR N0 N1 (ansK ((ky kk N0 N1).map Prod.snd) kd key sp ix) := by
  obtain ⟨F, hr⟩ := (hp.at_ kk hk).2.2
  have hln := hp.len
  obtain ⟨i, hi, py⟩ := play hr (by rw [hf]; decide) hkey kd
  obtain rfl := pl_uniq hi hpl
  have hc : ((ky kk 18 20 : Nat) : Int) = (ky kk 18 20 : Int) := by
    rcases (show kk = 0 ∨ kk = 1 by omega) with rfl | rfl <;> rfl
  have hs : spc m (ky kk N0 N1).length (ky kk N1 N0).length = sp := by
    rw [← hsp]
    unfold spc
    have e : (ky kk N0 N1).length + (ky kk N1 N0).length = N0.length + N1.length := by
      rcases (show kk = 0 ∨ kk = 1 by omega) with rfl | rfl
      · rfl
      · exact Nat.add_comm _ _
    rw [e]
    congr 1
    exact propext ⟨fun h => by omega, fun h => by omega⟩
  rw [hc, hcall] at py
  have hlen : ((ky kk N0 N1).map Prod.snd).length ≤ 200 := by
    rw [List.length_map]
    rcases (show kk = 0 ∨ kk = 1 by omega) with rfl | rfl
    · exact hln.1
    · exact hln.2
  have hrep := py.rep
  rw [hs, hRR] at hrep
  have hRe : R.e = RR.e := by rw [← hrep]
  have hRL : R.L = RR.L := by rw [← hrep]
  have hae := ansR_e ((ky kk N0 N1).map Prod.snd) kd key sp i
  rw [hRR] at hae
  obtain ⟨M, F1, h1, h2⟩ := py.rm
  rw [hs] at h2
  refine ⟨by rw [py.f]; exact hf, ⟨M, F1, h1, h2⟩, hrep.symm, fun h9 => ⟨(py.nine h9).trans hc, ?_, ?_⟩, fun hl => ⟨py.look ((lkB_iff kd).1 hl), ?_⟩, fun he => ⟨(py.err he).1, (py.err he).2, ?_, ?_⟩, ?_⟩
  · rcases hae with q | q
    · omega
    · omega
  · cases h : lkB kd with
    | false => rfl
    | true => have := (lkB_iff kd).1 h; omega
  · have := (lkB_iff kd).1 hl
    rcases hae with q | q <;> omega
  · cases h : lkB kd with
    | false => rfl
    | true =>
      have := (lkB_iff kd).1 h
      rcases hae with q | q <;> omega
  · rcases hae with q | q <;> omega
  · rw [hRL, ← hRR]
    unfold ansR
    repeat' split
    all_goals first
      | (simp; done)
      | (show ((ky kk N0 N1).map Prod.snd).length ≤ 1000; omega)
end Go.Proofs.Ytmnbilhblkobdaa
