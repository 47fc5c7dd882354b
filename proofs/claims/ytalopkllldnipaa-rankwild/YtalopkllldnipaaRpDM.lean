/-
  No statement of the seat is proved here. (Several texts in one: RpD, RpE.)
-/
import Derived.Test.YtalopkllldnipaaRpAM
import Derived.Test.YtalopkllldnipaaRlF
import Derived.Test.YtalopkllldnipaaASeg

/- Rows of entries; the document's Push (layer 24). No statement of the seat is proved here. -/
namespace Go.Proofs.Ytalopkllldnipaa
open Go.RowKit

def eC (p : Int × Int) : List Value := [.int .u64 p.1, .int .u64 p.2]
def oe (l : List (Int × Int)) (i : Nat) : Int × Int := l[i]?.getD (0, 0)
theorem info_entry : (Try.prog.info? 82).map (fun i => (i.zero, i.size, i.bytes)) = some (some (.agg #[.int .u64 0, .int .u64 0]), 2, 16) := by kernel_rfl
/-- A row of entries that can be read. -/
def LiesE (w : World) (v : Value) (l : List (Int × Int)) : Prop := ∃ a c, v = .slice a l.length c ∧ l.length ≤ c ∧ ∀ i, i < l.length → ∃ g off, a = some ⟨g, off, none⟩ ∧ w.cell? ⟨g, off + i * 2, none⟩ = some (.int .u64 (oe l i).1) ∧ w.cell? ⟨g, off + i * 2 + 1, none⟩ = some (.int .u64 (oe l i).2)
/-- One of the call's own. -/
def Wn (w : World) (base : Nat) (v : Value) (l : List (Int × Int)) : Prop := w.ownsRow base 82 2 v l.length (l.flatMap eC)
theorem Wn.nil (w : World) (base : Nat) : Wn w base (.slice none 0 0) [] := ⟨rfl, .inl ⟨rfl, rfl⟩⟩
theorem Wn.keeps {w w' : World} {base : Nat} {v : Value} {l : List (Int × Int)} {S : Nat → Prop} (h : Wn w base v l) (k : Keeps S w w') (hs : ∀ g, v.ownBlock = some g → ¬ S g) : Wn w' base v l := own_keeps h k hs
theorem eC_get (l : List (Int × Int)) : ∀ (i : Nat), i < l.length → (l.flatMap eC)[i * 2]? = some (.int .u64 (oe l i).1) ∧ (l.flatMap eC)[i * 2 + 1]? = some (.int .u64 (oe l i).2) := by
  induction l with
  | nil => intro i hi; simp at hi
  | cons p l ih =>
    intro i hi
    cases i with
    | zero => exact ⟨rfl, rfl⟩
    | succ i =>
      have q := ih i (by simpa using hi)
      rw [show (i + 1) * 2 = i * 2 + 2 by omega]
      exact ⟨q.1, q.2⟩
theorem eC_len (l : List (Int × Int)) : (l.flatMap eC).length = l.length * 2 := by
  induction l with
  | nil => rfl
  | cons p l ih =>
    rw [List.flatMap_cons, List.length_append, ih]
    simp [eC]
    omega
theorem Wn.lies {w : World} {base : Nat} {v : Value} {l : List (Int × Int)} (h : Wn w base v l) : LiesE w v l := by
  rcases id h.2 with ⟨h1, h2⟩ | ⟨g, cap, cur, rfl, h1, h2, h3, _⟩
  · have e : l = [] := List.eq_nil_of_length_eq_zero h2
    subst e
    exact ⟨none, 0, h1, Nat.le_refl _, fun i hi => by simp at hi⟩
  · refine ⟨_, cap, rfl, h3, fun i hi => ⟨g, 0, rfl, ?_, ?_⟩⟩
    · have q := World.ownsRow.cellAt h (i * 2) (by omega)
      rw [Nat.zero_add, q]
      exact (eC_get l i hi).1
    · have q := World.ownsRow.cellAt h (i * 2 + 1) (by omega)
      rw [Nat.zero_add, q]
      exact (eC_get l i hi).2
theorem LiesE.keeps {w w' : World} {v : Value} {l : List (Int × Int)} (h : LiesE w v l) (k : Keeps (fun _ => False) w w') : LiesE w' v l := by
  obtain ⟨a, c, h1, h2, h3⟩ := h
  refine ⟨a, c, h1, h2, fun i hi => ?_⟩
  obtain ⟨g, off, rfl, c0, c1⟩ := h3 i hi
  have hb := k.block g (World.block_lt_of_cell? _ _ c0) (fun f => f)
  exact ⟨g, off, rfl, (World.cell?_of_block hb).trans c0, (World.cell?_of_block hb).trans c1⟩
set_option maxRecDepth 100000 in
set_option maxHeartbeats 1000000 in
/-- append of a row that can be read to one of the call's own. -/
theorem app_ents (w : World) (base : Nat) (v : Value) (l : List (Int × Int)) (hown : Wn w base v l) (a : Option Addr) (m c : Nat) (ys : List (Int × Int)) (hm : ys.length = m) (hr : ∀ i, i < m → ∃ g off, a = some ⟨g, off, none⟩ ∧ w.cell? ⟨g, off + i * 2, none⟩ = some (.int .u64 (oe ys i).1) ∧ w.cell? ⟨g, off + i * 2 + 1, none⟩ = some (.int .u64 (oe ys i).2)) (hb : l.length + m ≤ 4000000000) (hbase : base ≤ w.heap.size) :
    ∃ v' w', (Builtin.append_ #[30, 30] 30 #[v, .slice a m c]).run Try.prog w = .ok v' w' ∧ Wn w' base v' (l ++ ys) ∧ w.grownBy w' v.ownBlock := by
  obtain ⟨i0, hi, hz0, hz1, hz2⟩ := info_parts info_entry
  have hg : w.grownBy w v.ownBlock := ⟨rfl, rfl, rfl, Nat.le_refl _, fun _ _ _ => rfl⟩
  cases a with
  | none =>
    have h0 : m = 0 := by
      rcases Nat.eq_zero_or_pos m with h | h
      · exact h
      · obtain ⟨g, off, ha, _⟩ := hr 0 h
        cases ha
    subst h0
    obtain rfl : ys = [] := List.eq_nil_of_length_eq_zero hm
    have hsrc : Src Try.prog i0.size 30 (.slice none 0 c) 0 [] w := Src.ofNil w (e' := 82) Try.underlying30 c
    rcases id hown.2 with ⟨rfl, h0⟩ | ⟨g, cap, cur, rfl, h1, h2, h3, h4, h5, h6⟩
    · exact ⟨_, _, run_append_nothing w 30 30 30 82 i0 Try.underlying30 hi none 0 0 (Nat.le_refl _) _ hsrc, by simpa using hown, hg⟩
    · exact ⟨_, _, run_append_nothing w 30 30 30 82 i0 Try.underlying30 hi (some ⟨g, 0, none⟩) l.length cap h3 _ hsrc, by simpa using hown, hg⟩
  | some a =>
    obtain ⟨v', w', h1, h2, h3, _⟩ := run_append_own (P := Try.prog) w base 30 30 82 i0 (.agg #[.int .u64 0, .int .u64 0]) 2 16 Try.underlying30 hi hz0 hz1 hz2 rfl (by decide) v l.length (l.flatMap eC) hown a m c (ys.flatMap eC) (by rw [eC_len, hm])
      (fun j u hj => by
        have hj' : j < m * 2 := by
          have := (List.getElem?_eq_some_iff.1 hj).1
          rw [eC_len, hm] at this
          exact this
        obtain ⟨i, hi2⟩ : ∃ i, j = i * 2 ∨ j = i * 2 + 1 := ⟨j / 2, by omega⟩
        obtain ⟨g, off, ha', c0, c1⟩ := hr i (by omega)
        injection ha' with ha'
        subst ha'
        have q := eC_get ys i (by omega)
        rw [addr_add, ← hj]
        rcases hi2 with rfl | rfl
        · rw [c0, q.1]
        · rw [← Nat.add_assoc, c1, q.2])
      (fun u hu => by
        simp [eC] at hu
        obtain ⟨x, y, _, rfl | rfl⟩ := hu <;> rfl) (by simp only [maxLen]; omega) (by omega) hbase
    refine ⟨v', w', h1, ?_, h3⟩
    unfold Wn
    rw [List.flatMap_append, List.length_append, hm]
    exact h2
theorem insE_at (x : Int × Int) : ∀ (l : List (Int × Int)) (k : Nat), k ≤ l.length → (∀ j, j < k → ¬ befE x (oe l j)) → (k = l.length ∨ befE x (oe l k)) → insE x l = l.take k ++ x :: l.drop k
  | [], k, hk, _, _ => by
    obtain rfl : k = 0 := by simpa using hk
    rfl
  | y :: l, 0, _, _, h => by
    have hb : befE x y := by
      rcases h with h | h
      · simp at h
      · exact h
    unfold insE
    rw [if_pos hb]
    rfl
  | y :: l, k + 1, hk, h1, h2 => by
    have hb : ¬ befE x y := h1 0 (by omega)
    unfold insE
    rw [if_neg hb, insE_at x l k (by simpa using hk) (fun j hj => h1 (j + 1) (by omega)) (by
      rcases h2 with h | h
      · left; simpa using h
      · right; exact h)]
    rfl
end Go.Proofs.Ytalopkllldnipaa


/- The document's Push (layer 24). No statement of the seat is proved here. -/
namespace Go.Proofs.Ytalopkllldnipaa
open Go.RowKit

theorem oe_take {l : List (Int × Int)} {k i : Nat} (h : i < k) : oe (l.take k) i = oe l i := by unfold oe; rw [List.getElem?_take_of_lt h]
theorem oe_drop (l : List (Int × Int)) (k i : Nat) : oe (l.drop k) i = oe l (k + i) := by unfold oe; rw [List.getElem?_drop]
theorem Wn.own_new {w : World} {base : Nat} {v : Value} {l : List (Int × Int)} (h : Wn w base v l) {i : Nat} (hi : v.ownBlock = some i) : base ≤ i := by
  rcases id h.2 with ⟨h1, _⟩ | ⟨g, cap, cur, rfl, h1, _⟩
  · rw [h1] at hi; cases hi
  · have e : g = i := by simpa [Value.ownBlock] using hi
    omega
set_option maxRecDepth 100000 in
set_option maxHeartbeats 2000000 in
/-- The three appends of Push. -/
theorem ins_rows {w W : World} {x : Int × Int} {l : List (Int × Int)} {a : Option Addr} {c : Nat} (hl : l.length ≤ 1000000) (hr : LiesE w (.slice a l.length c) l) (kk : Keeps (fun _ => False) w W) (k : Nat) (hk : k ≤ l.length) :
    ∃ v1 w3 v2 w4, (Builtin.append_ #[30, 30] 30 #[.slice none 0 0, .slice a k c]).run Try.prog W = .ok v1 w3 ∧ Keeps (fun _ => False) W w3 ∧
      (Builtin.append_ #[30, 30] 30 #[v1, .slice (some ⟨w3.heap.size, 0, none⟩) 1 1]).run Try.prog (w3.alloc (.cells #[.int .u64 x.1, .int .u64 x.2] 82)) = .ok v2 w4 ∧
      ∀ (a' : Option Addr) (c' : Nat), (∀ g off, a = some ⟨g, off, none⟩ → k < l.length → a' = some ⟨g, off + k * 2, none⟩) → ∃ v3 w5, (Builtin.append_ #[30, 30] 30 #[v2, .slice a' (l.length - k) c']).run Try.prog w4 = .ok v3 w5 ∧ Wn w5 w.heap.size v3 (l.take k ++ x :: l.drop k) ∧ Keeps (fun _ => False) w w5 := by
  obtain ⟨a1, c1, hv, hc1, hcs⟩ := hr.keeps kk
  injection hv with e1 e2 e3
  subst e1 e3
  have hsz := kk.size
  obtain ⟨v1, w3, r1, o1, g1⟩ := app_ents W w.heap.size (.slice none 0 0) [] (Wn.nil _ _) a k c (l.take k) (by simp; omega) (fun i hi => by
    obtain ⟨g, off, ha, c0, c1⟩ := hcs i (by omega)
    rw [oe_take hi]
    exact ⟨g, off, ha, c0, c1⟩) (by simp; omega) hsz
  have k1 : Keeps (fun _ => False) W w3 := (keeps_grown g1).mono (fun i _ e => by cases e)
  have hs3 := k1.size
  have hbn := blk_new w3 82 #[.int .u64 x.1, .int .u64 x.2]
  have kn := keeps_new w3 (.cells #[.int .u64 x.1, .int .u64 x.2] 82)
  obtain ⟨v2, w4, r2, o2, g2⟩ := app_ents (w3.alloc (.cells #[.int .u64 x.1, .int .u64 x.2] 82)) w.heap.size v1 _ (o1.keeps kn (fun _ _ f => f)) (some ⟨w3.heap.size, 0, none⟩) 1 1 [x] rfl (fun i hi => by
    obtain rfl : i = 0 := by omega
    exact ⟨w3.heap.size, 0, rfl, hbn.cell rfl, hbn.cell rfl⟩) (by simp; omega) (by have := kn.size; omega)
  have k2 : Keeps (fun i => v1.ownBlock = some i) W w4 := ((k1.trans kn).mono (fun _ _ f => f.elim)).trans (keeps_grown g2)
  have kw : Keeps (fun _ => False) w w4 := kk.step k2 (fun i hi e => by have := o1.own_new e; omega)
  refine ⟨v1, w3, v2, w4, r1, k1, r2, fun a' c' ha' => ?_⟩
  obtain ⟨a2, c2, hv, hc2, hcs2⟩ := hr.keeps kw
  injection hv with e1 e2 e3
  subst e1 e3
  obtain ⟨v3, w5, r3, o3, g3⟩ := app_ents w4 w.heap.size v2 _ o2 a' (l.length - k) c' (l.drop k) (by simp) (fun i hi => by
    obtain ⟨g, off, ha, c0, c1⟩ := hcs2 (k + i) (by omega)
    refine ⟨g, off + k * 2, ha' g off ha (by omega), ?_, ?_⟩
    · rw [oe_drop, show off + k * 2 + i * 2 = off + (k + i) * 2 by omega]; exact c0
    · rw [oe_drop, show off + k * 2 + i * 2 = off + (k + i) * 2 by omega]; exact c1) (by simp; omega) (by have := kw.size; omega)
  refine ⟨v3, w5, r3, ?_, kw.step (keeps_grown g3) (fun i hi e => by have := o2.own_new e; omega)⟩
  simpa using o3
set_option maxRecDepth 100000 in
set_option maxHeartbeats 4000000 in
theorem dpush_any (l : List (Int × Int)) (x : Int × Int) (v : Value) (hl : l.length ≤ 1000000) (w : World) (hr : LiesE w v l) : Calls Try.prog 36 #[v, .agg #[.int .u64 x.1, .int .u64 x.2]] w fun e w' => ∃ v', e = .returned v' ∧ Wn w' w.heap.size v' (insE x l) ∧ Keeps (fun _ => False) w w' := by
  obtain ⟨x0, x1⟩ := x
  have HR := hid hr
  obtain ⟨a, c, rfl, hc, _⟩ := hr
  have HK0 := hid (keeps_new w (.cells #[.int .u64 x0, .int .u64 x1] 82))
  have HB0 := hid (blk_new w 82 #[.int .u64 x0, .int .u64 x1])
  go_enter Try.func36, Try.ntmps36
  go_wp2_with fail
  go_loopw [5] (fun i wr => ∃ k : Nat, k ≤ l.length ∧ i = .int .i64 k ∧ Hid ((∀ j, j < k → ¬ befE (x0, x1) (oe l j)) ∧ Blk wr w.heap.size 82 #[.int .u64 x0, .int .u64 x1] ∧ Keeps (fun _ => False) w wr)) (fun i _ => l.length - (intOf i).toNat)
  case atStart => exact ⟨0, by omega, rfl, hid ⟨fun j hj => absurd hj (by omega), HB0.out, HK0.out⟩⟩
  case round =>
    obtain ⟨k, hk, rfl, hh⟩ := hrel
    clear HB0 HK0
    by_cases hkl : k < l.length
    · have hkl' : (k : Int) < (l.length : Int) := by omega
      have hwk1 : IntKind.i64.wrap ((k : Int) + 1) = ((k + 1 : Nat) : Int) := by rw [IntKind.wrap_i64]; omega
      obtain ⟨a', c', hv, _, hcs⟩ := HR.out.keeps hh.out.2.2
      injection hv with hv1 hv2 hv3
      subst hv1
      obtain ⟨g, off, ha, c0, c1⟩ := hcs k hkl
      subst ha
      clear hcs hv2 hv3
      have x0c : wr.cell? ⟨w.heap.size, 0, none⟩ = some (.int .u64 x0) := hh.out.2.1.cell rfl
      have x1c : wr.cell? ⟨w.heap.size, 1, none⟩ = some (.int .u64 x1) := hh.out.2.1.cell rfl
      have HC := hid (fun W => before_any (x0, x1) (oe l k) W)
      generalize he : oe l k = ek at *
      obtain ⟨y0, y1⟩ := ek
      have HE := hid he
      clear he
      dsimp only at c0 c1 HC
      go_wp2_with fail
      refine wp_region_segs [(true, 10), (false, 1), (true, 2)] (by kernel_rfl) (by kernel_rfl) ?_
      intro q0
      simp only [wpSeg, List.take_succ_cons, List.take_zero, List.drop_succ_cons, List.drop_zero]
      repeat (go_big_quiet_step (fail))
      refine wpQuiet_nil ?_
      intro _ hw'
      obtain ⟨q1, hw''⟩ := hw'
      subst hw''
      try simp only [World.drewN_drewN]
      intro K hK'
      go_wp2_with fail
      refine (HC.out _).mono ?_
      rintro e_ w2 ⟨rfl, k2⟩
      have k2' : Keeps (fun _ => False) wr w2 := ((Keeps.refl (fun _ => False) wr).drewN (q0 + q1)).trans k2
      have HN := hid (And.intro hh.out.1 (And.intro (hh.out.2.1.kept k2' (fun f => f)) (hh.out.2.2.trans k2')))
      clear k2 k2' hh c0 c1 x0c x1c HC
      by_cases hb : befE (x0, x1) (y0, y1)
      · have hb2 : decide (befE (x0, x1) (y0, y1)) = true := decide_eq_true hb
        go_wp2_with fail
        repeat (go_big_quiet_step (fail))
        refine wpQuiet_nil ?_
        intro _ hw'
        obtain ⟨q2, hw''⟩ := hw'
        subst hw''
        try simp only [World.drewN_drewN]
        have HQ : Hid ((∀ j, j < k → ¬ befE (x0, x1) (oe l j)) ∧ Blk (w2.drewN q2) w.heap.size 82 #[.int .u64 x0, .int .u64 x1] ∧ Keeps (fun _ => False) w (w2.drewN q2)) := by
          have h := HN.out
          have kd : Keeps (fun _ => False) w2 (w2.drewN q2) := (Keeps.refl _ _).drewN q2
          exact hid ⟨h.1, h.2.1.kept kd (fun f => f), h.2.2.trans kd⟩
        clear HN
        obtain ⟨v1, w3, v2, w4, r1, k1, r2, hr3⟩ := ins_rows (x := (x0, x1)) hl HR.out HQ.out.2.2 k hk
        obtain ⟨v3, w5, r3, o3, k5⟩ := hr3 (some ⟨g, off + k * 2, none⟩) (c - k) (fun g' off' e _ => by injection e with e; injection e with e1 e2; rw [e1, e2])
        have R1 := hid r1
        have R2 := hid r2
        have R3 := hid r3
        have HO := hid (And.intro o3 k5)
        have hx0 : w3.cell? ⟨w.heap.size, 0, none⟩ = some (.int .u64 x0) := (HQ.out.2.1.kept k1 (fun f => f)).cell rfl
        have hx1 : w3.cell? ⟨w.heap.size, 1, none⟩ = some (.int .u64 x1) := (HQ.out.2.1.kept k1 (fun f => f)).cell rfl
        clear r1 r2 r3 o3 k5 hr3 k1
        have HI : Hid (insE (x0, x1) l = l.take k ++ (x0, x1) :: l.drop k) := hid (insE_at _ _ k hk HQ.out.1 (.inr (by rw [HE.out]; exact hb)))
        go_wp2_with (at_builtin; first | (refine wpList_append_run rfl _ _ 30 rfl rfl rfl R1.out ?_; clear R1) | (refine wpList_append_run rfl _ _ 30 rfl rfl rfl R2.out ?_; clear R2) | (refine wpList_append_run rfl _ _ 30 rfl rfl rfl R3.out ?_; clear R3))
        go_ret
        exact ⟨_, rfl, by rw [HI.out]; exact HO.out.1, HO.out.2⟩
      · have hb2 : decide (befE (x0, x1) (y0, y1)) = false := decide_eq_false hb
        have HX := hid hb
        clear hb
        go_wp2_with fail
        repeat (go_big_quiet_step (fail))
        refine wpQuiet_nil ?_
        intro _ hw'
        obtain ⟨q2, hw''⟩ := hw'
        subst hw''
        try simp only [World.drewN_drewN]
        have HM : Hid (∀ q, (∀ j, j < k + 1 → ¬ befE (x0, x1) (oe l j)) ∧ Blk (w2.drewN q) w.heap.size 82 #[.int .u64 x0, .int .u64 x1] ∧ Keeps (fun _ => False) w (w2.drewN q)) := by
          intro q
          have h := HN.out
          have kd : Keeps (fun _ => False) w2 (w2.drewN q) := (Keeps.refl _ _).drewN q
          refine ⟨fun j hj => ?_, h.2.1.kept kd (fun f => f), h.2.2.trans kd⟩
          by_cases e : j = k
          · subst e
            rw [HE.out]
            exact HX.out
          · exact h.1 j (by omega)
        clear HN hb2
        go_wp2_with fail
        go_roundw
        case rel => exact ⟨k + 1, by omega, by simp, hid (HM.out _)⟩
        case measure => simp [intOf]; omega
    · obtain rfl : k = l.length := by omega
      have HQ : Hid (∀ q, (∀ j, j < l.length → ¬ befE (x0, x1) (oe l j)) ∧ Blk (wr.drewN q) w.heap.size 82 #[.int .u64 x0, .int .u64 x1] ∧ Keeps (fun _ => False) w (wr.drewN q)) := by
        have h := hh.out
        intro q
        have kd : Keeps (fun _ => False) wr (wr.drewN q) := (Keeps.refl _ _).drewN q
        exact ⟨h.1, h.2.1.kept kd (fun f => f), h.2.2.trans kd⟩
      clear hh
      have HI : Hid (insE (x0, x1) l = l.take l.length ++ (x0, x1) :: l.drop l.length) := hid (insE_at _ _ l.length hk (HQ.out 0).1 (.inl rfl))
      clear hkl
      by_cases h0 : l.length = 0
      · obtain rfl : l = [] := List.eq_nil_of_length_eq_zero h0
        clear h0 hk hl hc
        go_wp2_with fail
        go_quiet (fail)
        obtain ⟨v1, w3, v2, w4, r1, k1, r2, hr3⟩ := ins_rows (x := (x0, x1)) (by simp) HR.out (HQ.out nq).2.2 0 (by simp)
        obtain ⟨v3, w5, r3, o3, k5⟩ := hr3 a c (fun _ _ _ h => absurd h (by simp))
        have R1 := hid r1
        have R2 := hid r2
        have R3 := hid r3
        have HO := hid (And.intro o3 k5)
        have hx0 : w3.cell? ⟨w.heap.size, 0, none⟩ = some (.int .u64 x0) := ((HQ.out nq).2.1.kept k1 (fun f => f)).cell rfl
        have hx1 : w3.cell? ⟨w.heap.size, 1, none⟩ = some (.int .u64 x1) := ((HQ.out nq).2.1.kept k1 (fun f => f)).cell rfl
        clear r1 r2 r3 o3 k5 hr3 k1
        go_wp2_with (at_builtin; first | (refine wpList_append_run rfl _ _ 30 rfl rfl rfl R1.out ?_; clear R1) | (refine wpList_append_run rfl _ _ 30 rfl rfl rfl R2.out ?_; clear R2) | (refine wpList_append_run rfl _ _ 30 rfl rfl rfl R3.out ?_; clear R3))
        all_goals go_ret
        all_goals exact ⟨_, rfl, by rw [HI.out]; exact HO.out.1, HO.out.2⟩
      · obtain ⟨_, _, hv, _, hcs⟩ := HR.out
        injection hv with hv1 hv2 hv3
        subst hv1
        obtain ⟨g, off, rfl, _⟩ := hcs 0 (by omega)
        clear hcs hv2 hv3
        have hn0 : ¬ l = [] := fun e => h0 (by rw [e]; rfl)
        by_cases hce : c = l.length
        · subst hce
          go_wp2_with fail
          go_quiet (fail)
          obtain ⟨v1, w3, v2, w4, r1, k1, r2, hr3⟩ := ins_rows (x := (x0, x1)) hl HR.out (HQ.out nq).2.2 l.length hk
          obtain ⟨v3, w5, r3, o3, k5⟩ := hr3 (some ⟨g, off, none⟩) (0) (fun _ _ _ h => absurd h (Nat.lt_irrefl _))
          rw [Nat.sub_self] at r3
          have R1 := hid r1
          have R2 := hid r2
          have R3 := hid r3
          have HO := hid (And.intro o3 k5)
          have hx0 : w3.cell? ⟨w.heap.size, 0, none⟩ = some (.int .u64 x0) := ((HQ.out nq).2.1.kept k1 (fun f => f)).cell rfl
          have hx1 : w3.cell? ⟨w.heap.size, 1, none⟩ = some (.int .u64 x1) := ((HQ.out nq).2.1.kept k1 (fun f => f)).cell rfl
          clear r1 r2 r3 o3 k5 hr3 k1
          go_wp2_with (at_builtin; first | (refine wpList_append_run rfl _ _ 30 rfl rfl rfl R1.out ?_; clear R1) | (refine wpList_append_run rfl _ _ 30 rfl rfl rfl R2.out ?_; clear R2) | (refine wpList_append_run rfl _ _ 30 rfl rfl rfl R3.out ?_; clear R3))
          go_ret
          exact ⟨_, rfl, by rw [HI.out]; exact HO.out.1, HO.out.2⟩
        · have hlt : l.length < c := by omega
          have hce2 : ¬ l.length = c := fun e => hce e.symm
          go_wp2_with fail
          go_quiet (fail)
          obtain ⟨v1, w3, v2, w4, r1, k1, r2, hr3⟩ := ins_rows (x := (x0, x1)) hl HR.out (HQ.out nq).2.2 l.length hk
          obtain ⟨v3, w5, r3, o3, k5⟩ := hr3 (some ⟨g, off + l.length * 2, none⟩) (c - l.length) (fun _ _ _ h => absurd h (Nat.lt_irrefl _))
          rw [Nat.sub_self] at r3
          have R1 := hid r1
          have R2 := hid r2
          have R3 := hid r3
          have HO := hid (And.intro o3 k5)
          have hx0 : w3.cell? ⟨w.heap.size, 0, none⟩ = some (.int .u64 x0) := ((HQ.out nq).2.1.kept k1 (fun f => f)).cell rfl
          have hx1 : w3.cell? ⟨w.heap.size, 1, none⟩ = some (.int .u64 x1) := ((HQ.out nq).2.1.kept k1 (fun f => f)).cell rfl
          clear r1 r2 r3 o3 k5 hr3 k1
          go_wp2_with (at_builtin; first | (refine wpList_append_run rfl _ _ 30 rfl rfl rfl R1.out ?_; clear R1) | (refine wpList_append_run rfl _ _ 30 rfl rfl rfl R2.out ?_; clear R2) | (refine wpList_append_run rfl _ _ 30 rfl rfl rfl R3.out ?_; clear R3))
          go_ret
          exact ⟨_, rfl, by rw [HI.out]; exact HO.out.1, HO.out.2⟩
end Go.Proofs.Ytalopkllldnipaa
