/-
  The program's iterator 'apart' (package cells) and its closure: where two rows of one length differ, with the second one's words. No statement of the seat is proved here.
-/
import Derived.Test.YtmffkcbdgpaieaaIter
namespace Go.Proofs.Ytmffkcbdgpaieaa
open Go.RowKit Go.Shelf
attribute [local go_sem] Oper.semAt_some

theorem noGoto_normal {Q : Exit → Act → World → Prop} {a : Act} {w : World} : Exit.noGoto Q .normal a w = Q .normal a w := rfl

/-- Where the first k words differ, with the second row's. -/
def dl (xa xb : List Int) : Nat → List (Nat × Int)
  | 0 => []
  | k + 1 => if xb[k]?.getD 0 == xa[k]?.getD 0 then dl xa xb k else dl xa xb k ++ [(k, xb[k]?.getD 0)]
theorem dl_length (xa xb : List Int) : ∀ k, (dl xa xb k).length ≤ k
  | 0 => by simp [dl]
  | k + 1 => by
    have := dl_length xa xb k
    unfold dl
    split <;> simp <;> omega

/-- The blocks of S lie as they lay. -/
structure SameAt (S : Nat → Prop) (W W' : World) : Prop where
  block : ∀ k, S k → W'.heap[k]? = W.heap[k]?
theorem SameAt.refl (S : Nat → Prop) (W : World) : SameAt S W W := ⟨fun _ _ => rfl⟩
theorem SameAt.trans {S : Nat → Prop} {X Y Z : World} (h : SameAt S X Y) (k : SameAt S Y Z) : SameAt S X Z := ⟨fun i hi => (k.block i hi).trans (h.block i hi)⟩
theorem SameAt.cell {S : Nat → Prop} {W W' : World} (h : SameAt S W W') {p : Addr} (hp : S p.block) : W'.cell? p = W.cell? p := World.cell?_of_block (w := W) (h.block p.block hp)
theorem SameAt.keeps {S T : Nat → Prop} {W W' : World} (h : Keeps T W W') (hS : ∀ k, S k → k < W.heap.size ∧ ¬ T k) : SameAt S W W' := ⟨fun k hk => h.block k (hS k hk).1 (hS k hk).2⟩
theorem SameAt.putObj {S : Nat → Prop} {B : Nat} (hS : ∀ k, S k → k < B) (W : World) (l : Nat) (o' : Obj) (hl : B ≤ l) : SameAt S W (W.putObj l o') :=
  ⟨fun k hk => World.putObj_heap_other (fun e => by have := hS k hk; omega)⟩

/-- The six blocks that the closure of apart reads. -/
def six (xb xa ba ca bb cb : Nat) : Nat → Prop := fun k => k = xb ∨ k = xa ∨ k = ba ∨ k = ca ∨ k = bb ∨ k = cb

set_option maxRecDepth 100000 in
set_option maxHeartbeats 1000000 in
/-- The closure of apart, for every loop body that keeps the blocks that it reads. -/
theorem apart1_in (n : Nat) (hn : 1 ≤ n) (l xb xa : Nat) (ba ca bb cb : Nat) (wa wb : List Int) (na nb : Int) (hlen : wb.length = wa.length) (J Jx : List (Nat × Int) → World → Prop) (W : World)
    (hY : ∀ pre x W1, J pre W1 → pre.length < wb.length → YieldAt Fence.wide (n - 1) Try.prog l #[.int .u64 (x.1 : Nat), .int .u64 x.2] W1 fun e W' =>
      (e = .returned (.bool true) ∧ J (pre ++ [x]) W' ∧ SameAt (six xb xa ba ca bb cb) W1 W') ∨ (e = .returned (.bool false) ∧ Jx (pre ++ [x]) W'))
    (hxb : W.cell? ⟨xb, 0, none⟩ = some (.pointer (some ⟨bb, 0, none⟩))) (hxa : W.cell? ⟨xa, 0, none⟩ = some (.pointer (some ⟨ba, 0, none⟩))) (ha : RowAt W 74 36 ba ca wa na) (hb : RowAt W 74 36 bb cb wb nb)
    (h0 : J [] W) :
    CallsIn Fence.wide n Try.prog 60 #[.func (.yield l) #[] #[], .pointer (some ⟨xb, 0, none⟩), .pointer (some ⟨xa, 0, none⟩)] W fun e W' => (∃ v, e = .returned v) ∧
      ((∃ ys, ys = dl wa wb wb.length ∧ J ys W') ∨ (∃ pre, (∃ k, k < wb.length ∧ (wb[k]?.getD 0 == wa[k]?.getD 0) = false ∧ pre = dl wa wb (k + 1)) ∧ Jx pre W')) := by
  have hle := hb.le
  have c0 := hb.cell0
  refine callsIn_of_wp Try.func60 rfl trivial ?_ rfl
  simp only [Try.ntmps60, List.size_toArray, List.length_cons, List.length_nil, Nat.reduceAdd, Nat.reduceSub, Array.replicate_succ, Array.replicate_zero, List.push_toArray, List.append_toArray, List.nil_append, List.cons_append]
  refine wpIn_wide.2 (wp_scope_straight ((wpIn_wide (n := n)).1 (wpIn_seq (wpIn_label ?_))))
  change Code.wpIn _ _ _ _ _ _ _
  gi_wp2
  gi_loopw [11] (fun i wr => ∃ k : Nat, k ≤ wb.length ∧ i = .int .i64 k ∧ J (dl wa wb k) wr ∧ SameAt (six xb xa ba ca bb cb) W wr)
    (fun i _ => wb.length - (intOf i).toNat)
  case atStart => exact ⟨0, Nat.zero_le _, rfl, h0, SameAt.refl _ _⟩
  case round =>
    obtain ⟨k, hk, rfl, hJs, hB⟩ := hrel
    have kxa : wr.cell? ⟨xa, 0, none⟩ = some (.pointer (some ⟨ba, 0, none⟩)) := (hB.cell (p := ⟨xa, 0, none⟩) (.inr (.inl rfl))).trans hxa
    have ka0 : wr.cell? ⟨ba, 0, none⟩ = some (.slice (some ⟨ca, 0, none⟩) wa.length wa.length) := (hB.cell (p := ⟨ba, 0, none⟩) (.inr (.inr (.inl rfl)))).trans ha.cell0
    by_cases hlt : k < wb.length
    · have hlt' : (k : Int) < (wa.length : Int) := by omega
      have hcb : wr.cell? ⟨cb, k, none⟩ = some (.int .u64 (wb[k]?.getD 0)) := (hB.cell (p := ⟨cb, k, none⟩) (.inr (.inr (.inr (.inr (.inr rfl)))))).trans (hb.wcell k hlt)
      have hca : wr.cell? ⟨ca, k, none⟩ = some (.int .u64 (wa[k]?.getD 0)) := (hB.cell (p := ⟨ca, k, none⟩) (.inr (.inr (.inr (.inl rfl))))).trans (ha.wcell k (by omega))
      obtain ⟨fn, tmps, assign, body, hy, hR⟩ := hY _ (k, wb[k]?.getD 0) wr hJs (Nat.lt_of_le_of_lt (dl_length _ _ _) hlt)
      have hst : Hid (dl wa wb (k + 1) = if wb[k]?.getD 0 == wa[k]?.getD 0 then dl wa wb k else dl wa wb k ++ [(k, wb[k]?.getD 0)]) := rfl
      dsimp only at hy
      generalize hx : wb[k]?.getD 0 = x at hy hcb hR hst
      generalize hz : wa[k]?.getD 0 = z at hca hst
      have HX : Hid (wb[k]?.getD 0 = x) := hx
      have HZ : Hid (wa[k]?.getD 0 = z) := hz
      clear hx hz
      cases hd : (x == z)
      · rw [hd] at hst
        replace hst : Hid (dl wa wb (k + 1) = dl wa wb k ++ [(k, x)]) := hst
        gi_wp2
        refine hR.mono ?_
        rintro e W3 (⟨rfl, hJ3, hk3⟩ | ⟨rfl, hJx3⟩)
        · gi_wp2
          go_roundw
          case rel => exact ⟨k + 1, by omega, by simp, by rw [hst.out]; exact hJ3, hB.trans hk3⟩
          case measure => simp [intOf]; omega
        · gi_wp2
          rw [noGoto_normal]
          go_end0
          exact ⟨⟨_, rfl⟩, .inr ⟨_, ⟨k, hlt, by rw [HX.out, HZ.out]; exact hd, hst.out.symm⟩, hJx3⟩⟩
      · rw [hd] at hst
        replace hst : Hid (dl wa wb (k + 1) = dl wa wb k) := hst
        gi_wp2
        go_roundw
        case rel => exact ⟨k + 1, by omega, by simp, by rw [hst.out]; exact hJs, hB⟩
        case measure => simp [intOf]; omega
    · obtain rfl : k = wb.length := by omega
      gi_wp2
      rw [noGoto_normal]
      go_end0
      exact ⟨⟨_, rfl⟩, .inl ⟨_, rfl, hJs⟩⟩

/-- The closure of apart as an iterator. -/
theorem apart_stops (n : Nat) (hn : 1 ≤ n) (xb xa : Nat) (ba ca bb cb : Nat) (wa wb : List Int) (na nb : Int) (hlen : wb.length = wa.length) (w : World)
    (hxb : w.cell? ⟨xb, 0, none⟩ = some (.pointer (some ⟨bb, 0, none⟩))) (hxa : w.cell? ⟨xa, 0, none⟩ = some (.pointer (some ⟨ba, 0, none⟩))) (ha : RowAt w 74 36 ba ca wa na) (hb : RowAt w 74 36 bb cb wb nb) :
    SeqStopsK Fence.wide n Try.prog 60 #[.pointer (some ⟨xb, 0, none⟩), .pointer (some ⟨xa, 0, none⟩)] (fun x : Nat × Int => #[.int .u64 (x.1 : Nat), .int .u64 x.2]) (SameAt (six xb xa ba ca bb cb)) (fun ys => ys = dl wa wb wb.length)
      (fun pre => ∃ k, k < wb.length ∧ (wb[k]?.getD 0 == wa[k]?.getD 0) = false ∧ pre = dl wa wb (k + 1)) wb.length w :=
  fun l J Jx W hW _ _ hY h0 => apart1_in n hn l xb xa ba ca bb cb wa wb na nb hlen J Jx W hY ((hW.cell (p := ⟨xb, 0, none⟩) (World.block_lt_of_cell? _ _ hxb)).trans hxb) ((hW.cell (p := ⟨xa, 0, none⟩) (World.block_lt_of_cell? _ _ hxa)).trans hxa)
    ⟨(hW.block ba ha.ltb).trans ha.row, (hW.block ca ha.ltc).trans ha.words, ha.ne, ha.pos, ha.le⟩ ⟨(hW.block bb hb.ltb).trans hb.row, (hW.block cb hb.ltc).trans hb.words, hb.ne, hb.pos, hb.le⟩ h0

set_option maxHeartbeats 400000 in
/-- apart hands back its closure over the two rows' pointers, in boxes. -/
theorem apart_any (p q : Option Addr) (w : World) : Calls Try.prog 55 #[.pointer p, .pointer q] w fun e w' =>
    e = .returned (.func (.func 60) #[] #[.pointer (some ⟨w.heap.size + 1, 0, none⟩), .pointer (some ⟨w.heap.size, 0, none⟩)]) ∧ w' = (w.alloc (.cells #[.pointer p] 25)).alloc (.cells #[.pointer q] 25) := by
  go_enter Try.func55, Try.ntmps55
  go_wp2
  go_ret
  exact ⟨rfl, rfl⟩

end Go.Proofs.Ytmffkcbdgpaieaa
