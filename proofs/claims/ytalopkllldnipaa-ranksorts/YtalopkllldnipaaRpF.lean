
/- The document's Is and SameList (layer 24). No statement of the seat is proved here. -/
import Derived.Test.YtalopkllldnipaaRpD
import Derived.Test.YtalopkllldnipaaRlG
namespace Go.Proofs.Ytalopkllldnipaa
open Go.RowKit

theorem reB_nan {w : Int} (h : reK w = true) (c : w ≠ 18446744073709551615) : nan (reB w) = false := by
  simp only [reK, decide_eq_true_eq] at h
  unfold reB nan
  simp only [decide_eq_false_iff_not]
  (repeat' split) <;> omega
theorem ofR_reB {w : Int} (h : reK w = true) : ofR (reB w) = w := by
  by_cases c : w = 18446744073709551615
  · subst c; decide
  · have n := reB_nan h c
    unfold ofR
    rw [n, if_neg (by decide)]
    simp only [reK, decide_eq_true_eq] at h
    unfold reB
    (repeat' split) <;> omega
theorem reB_lt {w : Int} (hw : isW w) : reB w < 18446744073709551616 := by
  have h1 := hw.1
  have h2 := hw.2
  unfold reB
  (repeat' split) <;> omega
set_option maxRecDepth 100000 in
set_option maxHeartbeats 4000000 in
theorem dis_any (n : Nat) (x : Int) (e : Int × Int) (hn : n < 18446744073709551616) (w : World) : Calls Try.prog 38 #[.agg #[.float .f64 n, .int .u64 x], .agg #[.int .u64 e.1, .int .u64 e.2]] w fun r w' => r = .returned (.bool (decide (x = e.2 ∧ ofR n = e.1))) ∧ Keeps (fun _ => False) w w' := by
  obtain ⟨e0, e1⟩ := e
  dsimp only
  have HO := hid (dofReal_any n hn)
  have hb0 := blk_new w 40 #[.float .f64 n, .int .u64 x]
  have hb1 := blk_new (w.alloc (.cells #[.float .f64 n, .int .u64 x] 40)) 82 #[.int .u64 e0, .int .u64 e1]
  rw [show (w.alloc (.cells #[.float .f64 n, .int .u64 x] 40)).heap.size = w.heap.size + 1 by simp] at hb1
  have hb2 := hb0.kept (keeps_new _ (.cells #[.int .u64 e0, .int .u64 e1] 82)) (fun f => f)
  have S2 : ((w.alloc (.cells #[.float .f64 n, .int .u64 x] 40)).alloc (.cells #[.int .u64 e0, .int .u64 e1] 82)).cell? ⟨w.heap.size, 0, none⟩ = some (.float .f64 n) ∧ ((w.alloc (.cells #[.float .f64 n, .int .u64 x] 40)).alloc (.cells #[.int .u64 e0, .int .u64 e1] 82)).cell? ⟨w.heap.size, 1, none⟩ = some (.int .u64 x) ∧ ((w.alloc (.cells #[.float .f64 n, .int .u64 x] 40)).alloc (.cells #[.int .u64 e0, .int .u64 e1] 82)).cell? ⟨w.heap.size + 1, 0, none⟩ = some (.int .u64 e0) ∧ ((w.alloc (.cells #[.float .f64 n, .int .u64 x] 40)).alloc (.cells #[.int .u64 e0, .int .u64 e1] 82)).cell? ⟨w.heap.size + 1, 1, none⟩ = some (.int .u64 e1) := ⟨hb2.cell rfl, hb2.cell rfl, hb1.cell rfl, hb1.cell rfl⟩
  have HK : Hid (∀ q, Keeps (fun _ => False) w (((w.alloc (.cells #[.float .f64 n, .int .u64 x] 40)).alloc (.cells #[.int .u64 e0, .int .u64 e1] 82)).drewN q)) := fun q => ((keeps_new w _).alloc _).drewN q
  clear hb0 hb1 hb2
  by_cases hx : x = e1
  · subst hx
    go_enter Try.func38, Try.ntmps38
    go_wp2_with fail
    go_region_held3 (fun W : World => W.cell? ⟨w.heap.size, 0, none⟩ = some (.float .f64 n) ∧ W.cell? ⟨w.heap.size, 1, none⟩ = some (.int .u64 x) ∧ W.cell? ⟨w.heap.size + 1, 0, none⟩ = some (.int .u64 e0) ∧ W.cell? ⟨w.heap.size + 1, 1, none⟩ = some (.int .u64 x)) (first | assumption | (exact S2) | go_keep) (first
      | (go_at_call 67; refine (HO.out _).mono ?_; rintro e w' ⟨rfl, rfl⟩))
    all_goals go_wp2_with fail
    all_goals go_ret
    all_goals exact ⟨by simp; rfl, HK.out _⟩
  · have hx1 : (x == e1) = false := by simpa using hx
    clear HO
    go_enter Try.func38, Try.ntmps38
    go_wp2_with fail
    go_quiet (fail)
    go_wp2_with fail
    go_ret
    exact ⟨by simp [hx], HK.out _⟩
theorem entC_get (l : List (Int × Int)) : ∀ (i : Nat), i < l.length → (l.flatMap entC)[i * 2]? = some (.float .f64 (reB (oe l i).1)) ∧ (l.flatMap entC)[i * 2 + 1]? = some (.int .u64 (oe l i).2) := by
  induction l with
  | nil => intro i hi; simp at hi
  | cons p l ih =>
    intro i hi
    cases i with
    | zero => exact ⟨rfl, rfl⟩
    | succ i =>
      have q := ih i (by simpa using hi)
      rw [show (i + 1) * 2 = i * 2 + 2 by omega]
      exact ⟨q.1, q.2⟩
/-- A row that was told, and can be read. -/
def LiesR (w : World) (v : Value) (l : List (Int × Int)) : Prop := ∃ a c, v = .slice a l.length c ∧ ∀ i, i < l.length → ∃ g off, a = some ⟨g, off, none⟩ ∧ w.cell? ⟨g, off + i * 2, none⟩ = some (.float .f64 (reB (oe l i).1)) ∧ w.cell? ⟨g, off + i * 2 + 1, none⟩ = some (.int .u64 (oe l i).2)
theorem Er.lies {w : World} {base : Nat} {v : Value} {l : List (Int × Int)} (h : Er w base v l) : LiesR w v l := by
  rcases id h.2 with ⟨h1, h2⟩ | ⟨g, cap, cur, rfl, h1, h2, h3, _⟩
  · have e : l = [] := List.eq_nil_of_length_eq_zero h2
    subst e
    exact ⟨none, 0, h1, fun i hi => by simp at hi⟩
  · refine ⟨_, cap, rfl, fun i hi => ⟨g, 0, rfl, ?_, ?_⟩⟩
    · have q := World.ownsRow.cellAt h (i * 2) (by omega)
      rw [Nat.zero_add, q]
      exact (entC_get l i hi).1
    · have q := World.ownsRow.cellAt h (i * 2 + 1) (by omega)
      rw [Nat.zero_add, q]
      exact (entC_get l i hi).2
theorem LiesR.keeps {w w' : World} {v : Value} {l : List (Int × Int)} (h : LiesR w v l) (k : Keeps (fun _ => False) w w') : LiesR w' v l := by
  obtain ⟨a, c, h1, h3⟩ := h
  refine ⟨a, c, h1, fun i hi => ?_⟩
  obtain ⟨g, off, rfl, c0, c1⟩ := h3 i hi
  have hb := k.block g (World.block_lt_of_cell? _ _ c0) (fun f => f)
  exact ⟨g, off, rfl, (World.cell?_of_block hb).trans c0, (World.cell?_of_block hb).trans c1⟩
set_option maxRecDepth 100000 in
set_option maxHeartbeats 4000000 in
theorem dsame_any (l : List (Int × Int)) (va vb : Value) (hl : l.length ≤ 2147483647) (hk : ∀ i, i < l.length → reK (oe l i).1 = true ∧ isW (oe l i).1) (w : World) (ha : LiesR w va l) (hb : LiesE w vb l) : Calls Try.prog 23 #[va, vb] w fun r w' => r = .returned (.bool true) ∧ Keeps (fun _ => False) w w' := by
  have HA := hid ha
  have HB := hid hb
  obtain ⟨aa, ca, rfl, _⟩ := ha
  obtain ⟨ab, cb, rfl, _, _⟩ := hb
  go_enter Try.func23, Try.ntmps23
  go_wp2_with fail
  go_loopw [5] (fun i wr => ∃ k : Nat, k ≤ l.length ∧ i = .int .i64 k ∧ Hid (Keeps (fun _ => False) w wr)) (fun i _ => l.length - (intOf i).toNat)
  case atStart => exact ⟨0, by omega, rfl, hid (Keeps.refl _ _)⟩
  case round =>
    obtain ⟨k, hkl, rfl, hh⟩ := hrel
    by_cases hlt : k < l.length
    · have hlt' : (k : Int) < (l.length : Int) := by omega
      have hwk1 : IntKind.i64.wrap ((k : Int) + 1) = ((k + 1 : Nat) : Int) := by rw [IntKind.wrap_i64]; omega
      obtain ⟨a', c', hv, hcs⟩ := HA.out.keeps hh.out
      injection hv with hv1 hv2 hv3
      subst hv1
      obtain ⟨g, off, ha, c0, c1⟩ := hcs k hlt
      subst ha
      obtain ⟨b', d', hv, _, hds⟩ := HB.out.keeps hh.out
      injection hv with hv1 hv4 hv5
      subst hv1
      obtain ⟨g2, off2, hb, d0, d1⟩ := hds k hlt
      subst hb
      clear hcs hds hv2 hv3 hv4 hv5
      obtain ⟨hre, hiw⟩ := hk k hlt
      have HC := hid (fun W => dis_any (reB (oe l k).1) (oe l k).2 (oe l k) (reB_lt hiw) W)
      have HD : decide ((oe l k).2 = (oe l k).2 ∧ ofR (reB (oe l k).1) = (oe l k).1) = true := by rw [ofR_reB hre]; simp
      rw [HD] at HC
      clear HD hre hiw
      generalize oe l k = ek at *
      obtain ⟨y0, y1⟩ := ek
      dsimp only at c0 c1 d0 d1 HC
      go_wp2_with fail
      refine wp_region_segs [(true, 8), (false, 2)] (by kernel_rfl) (by kernel_rfl) ?_
      intro q0
      simp only [wpSeg, List.take_succ_cons, List.take_zero, List.drop_succ_cons, List.drop_zero]
      repeat (go_big_quiet_step (fail))
      refine wpQuiet_nil ?_
      intro _ hw'
      obtain ⟨q1, hw''⟩ := hw'
      subst hw''
      try simp only [World.drewN_drewN]
      intro K hK'
      go_wp2_with fail
      refine (HC.out _).mono ?_
      rintro e_ w2 ⟨rfl, k2⟩
      have HN := hid (hh.out.trans (((Keeps.refl (fun _ => False) wr).drewN (q0 + q1)).trans k2))
      clear k2 hh c0 c1 d0 d1 HC hk HA HB
      go_wp2_with fail
      go_roundw
      case rel => exact ⟨k + 1, by omega, by simp, HN⟩
      case measure => simp [intOf]; omega
    · obtain rfl : k = l.length := by omega
      clear hk HA HB
      go_wp2_with fail
      go_ret
      exact ⟨rfl, hh.out⟩
end Go.Proofs.Ytalopkllldnipaa
