
/- Walks of the document's Script; what was lent is left. No statement of the seat is proved here. -/
import Derived.Test.YtljapgoeomedkaaDoorDbC
namespace Go.Proofs.YtljapgoeomedkaaDoor
open Go.RowKit Go.Shelf

set_option maxRecDepth 100000 in
set_option maxHeartbeats 8000000 in
theorem rscript_any (c : Int) (a1 : Option Addr) (n1 c1 : Nat) (ap : Option Addr) (cp : Nat) (a3 : Option Addr) (n3 c3 : Nat) (Ps : List (List I5)) (hn : Ps.length < 140737488355328) (w : World) (h : Pgs w (.slice ap Ps.length cp) Ps) : Calls Tryd.prog 30 #[.agg (scrA c a1 n1 c1 ap Ps.length cp a3 n3 c3)] w fun e w' => e = .returned (.agg (wrV (scrV c n1 n3 Ps).1 (scrV c n1 n3 Ps).2)) ∧ Keeps (fun _ => False) w w' := by
  have A0 := heap_alloc2_new w (.cells (scrA c a1 n1 c1 ap Ps.length cp a3 n3 c3) 63) (.cells (wrV 0 0) 40)
  have KA := ((Keeps.refl (fun _ => False) w).alloc (.cells (scrA c a1 n1 c1 ap Ps.length cp a3 n3 c3) 63)).alloc (.cells (wrV 0 0) 40)
  have HI : Hid (∀ X, Keeps (fun _ => False) w X → Pgs X (.slice ap Ps.length cp) Ps) := fun X k => h.keeps k
  have AL := rall_any _ Ps hn _ (HI.out _ KA)
  have hsv : scrV c n1 n3 Ps = if measB c n1 Ps.length n3 = true then (if (allV Ps).2.2 = 0 then (-1, 0) else ((allV Ps).1, 7)) else (-1, 7) := rfl
  have RW := rwrong_any
  unfold scrA wrV at A0 KA
  unfold scrA at AL ⊢
  clear h
  by_cases h0 : c < 1
  · rw [show measB c n1 Ps.length n3 = false from decide_eq_false (by omega), if_neg (by decide)] at hsv
    clear AL
    go_enter Tryd.func30, Tryd.ntmps30
    go_wp2_with fail
    refine (RW (-1) 7 _).mono ?_
    rintro e w9 ⟨rfl, k9⟩
    have K9 := KA.trans k9
    have B9 := (k9.block _ (lt_of_block A0) (fun f => f)).trans A0
    go_wp2_with (refine wpList_store_row rfl 40 _ _ rfl (w.heap.size + 1) (wrV (-1) 7) rfl rfl 40 _ B9 (wr_size _ _) rfl (wr_all _ _) ?_)
    refine bodyPost_ret (wrong_ret1 rfl _ _ (w.heap.size + 1) (wrV (-1) 7) (setRow_heap _ _ _ _ _ _ B9) rfl rfl) rfl ?_
    exact ⟨by rw [hsv], K9.row (by omega) _⟩
  · have _u0 := trivial
    by_cases h1 : c > 65536
    · rw [show measB c n1 Ps.length n3 = false from decide_eq_false (by omega), if_neg (by decide)] at hsv
      clear AL
      go_enter Tryd.func30, Tryd.ntmps30
      go_wp2_with fail
      refine (RW (-1) 7 _).mono ?_
      rintro e w9 ⟨rfl, k9⟩
      have K9 := KA.trans k9
      have B9 := (k9.block _ (lt_of_block A0) (fun f => f)).trans A0
      go_wp2_with (refine wpList_store_row rfl 40 _ _ rfl (w.heap.size + 1) (wrV (-1) 7) rfl rfl 40 _ B9 (wr_size _ _) rfl (wr_all _ _) ?_)
      refine bodyPost_ret (wrong_ret1 rfl _ _ (w.heap.size + 1) (wrV (-1) 7) (setRow_heap _ _ _ _ _ _ B9) rfl rfl) rfl ?_
      exact ⟨by rw [hsv], K9.row (by omega) _⟩
    · have _u1 := trivial
      by_cases h2 : (n1 : Int) > c
      · rw [show measB c n1 Ps.length n3 = false from decide_eq_false (by omega), if_neg (by decide)] at hsv
        clear AL
        go_enter Tryd.func30, Tryd.ntmps30
        go_wp2_with fail
        refine (RW (-1) 7 _).mono ?_
        rintro e w9 ⟨rfl, k9⟩
        have K9 := KA.trans k9
        have B9 := (k9.block _ (lt_of_block A0) (fun f => f)).trans A0
        go_wp2_with (refine wpList_store_row rfl 40 _ _ rfl (w.heap.size + 1) (wrV (-1) 7) rfl rfl 40 _ B9 (wr_size _ _) rfl (wr_all _ _) ?_)
        refine bodyPost_ret (wrong_ret1 rfl _ _ (w.heap.size + 1) (wrV (-1) 7) (setRow_heap _ _ _ _ _ _ B9) rfl rfl) rfl ?_
        exact ⟨by rw [hsv], K9.row (by omega) _⟩
      · have _u2 := trivial
        by_cases h3 : (Ps.length : Int) < 1
        · rw [show measB c n1 Ps.length n3 = false from decide_eq_false (by omega), if_neg (by decide)] at hsv
          clear AL
          go_enter Tryd.func30, Tryd.ntmps30
          go_wp2_with fail
          refine (RW (-1) 7 _).mono ?_
          rintro e w9 ⟨rfl, k9⟩
          have K9 := KA.trans k9
          have B9 := (k9.block _ (lt_of_block A0) (fun f => f)).trans A0
          go_wp2_with (refine wpList_store_row rfl 40 _ _ rfl (w.heap.size + 1) (wrV (-1) 7) rfl rfl 40 _ B9 (wr_size _ _) rfl (wr_all _ _) ?_)
          refine bodyPost_ret (wrong_ret1 rfl _ _ (w.heap.size + 1) (wrV (-1) 7) (setRow_heap _ _ _ _ _ _ B9) rfl rfl) rfl ?_
          exact ⟨by rw [hsv], K9.row (by omega) _⟩
        · have _u3 := trivial
          by_cases h4 : (Ps.length : Int) > 8
          · rw [show measB c n1 Ps.length n3 = false from decide_eq_false (by omega), if_neg (by decide)] at hsv
            clear AL
            go_enter Tryd.func30, Tryd.ntmps30
            go_wp2_with fail
            refine (RW (-1) 7 _).mono ?_
            rintro e w9 ⟨rfl, k9⟩
            have K9 := KA.trans k9
            have B9 := (k9.block _ (lt_of_block A0) (fun f => f)).trans A0
            go_wp2_with (refine wpList_store_row rfl 40 _ _ rfl (w.heap.size + 1) (wrV (-1) 7) rfl rfl 40 _ B9 (wr_size _ _) rfl (wr_all _ _) ?_)
            refine bodyPost_ret (wrong_ret1 rfl _ _ (w.heap.size + 1) (wrV (-1) 7) (setRow_heap _ _ _ _ _ _ B9) rfl rfl) rfl ?_
            exact ⟨by rw [hsv], K9.row (by omega) _⟩
          · have _u4 := trivial
            by_cases h5 : (n3 : Int) > 1048576
            · rw [show measB c n1 Ps.length n3 = false from decide_eq_false (by omega), if_neg (by decide)] at hsv
              clear AL
              go_enter Tryd.func30, Tryd.ntmps30
              go_wp2_with fail
              refine (RW (-1) 7 _).mono ?_
              rintro e w9 ⟨rfl, k9⟩
              have K9 := KA.trans k9
              have B9 := (k9.block _ (lt_of_block A0) (fun f => f)).trans A0
              go_wp2_with (refine wpList_store_row rfl 40 _ _ rfl (w.heap.size + 1) (wrV (-1) 7) rfl rfl 40 _ B9 (wr_size _ _) rfl (wr_all _ _) ?_)
              refine bodyPost_ret (wrong_ret1 rfl _ _ (w.heap.size + 1) (wrV (-1) 7) (setRow_heap _ _ _ _ _ _ B9) rfl rfl) rfl ?_
              exact ⟨by rw [hsv], K9.row (by omega) _⟩
            · have _u5 := trivial
              rw [show measB c n1 Ps.length n3 = true from decide_eq_true (by omega), if_pos rfl] at hsv
              generalize allV Ps = av at *
              obtain ⟨n, x, y⟩ := av
              dsimp only at AL hsv
              unfold wrV at AL
              go_enter Tryd.func30, Tryd.ntmps30
              go_wp2_with fail
              refine AL.mono ?_
              rintro e w2 ⟨rfl, k2⟩
              have K2 := (KA.trans k2).alloc (.cells #[.int .i64 x, .int .i64 y] 40)
              have B2 := ((k2.alloc (.cells #[.int .i64 x, .int .i64 y] 40)).block _ (lt_of_block A0) (fun f => f)).trans A0
              clear AL KA A0 k2
              by_cases hy : y = 0
              · subst hy
                rw [if_pos rfl] at hsv
                go_wp2_with fail
                refine (RW (-1) 0 _).mono ?_
                rintro e w9 ⟨rfl, k9⟩
                have K9 := K2.trans k9
                have B9 := (k9.block _ (lt_of_block B2) (fun f => f)).trans B2
                go_wp2_with (refine wpList_store_row rfl 40 _ _ rfl (w.heap.size + 1) (wrV (-1) 0) rfl rfl 40 _ B9 (wr_size _ _) rfl (wr_all _ _) ?_)
                refine bodyPost_ret (wrong_ret1 rfl _ _ (w.heap.size + 1) (wrV (-1) 0) (setRow_heap _ _ _ _ _ _ B9) rfl rfl) rfl ?_
                exact ⟨by rw [hsv], K9.row (by omega) _⟩
              · rw [if_neg hy] at hsv
                go_wp2_with fail
                refine (RW (n) 7 _).mono ?_
                rintro e w9 ⟨rfl, k9⟩
                have K9 := K2.trans k9
                have B9 := (k9.block _ (lt_of_block B2) (fun f => f)).trans B2
                go_wp2_with (refine wpList_store_row rfl 40 _ _ rfl (w.heap.size + 1) (wrV (n) 7) rfl rfl 40 _ B9 (wr_size _ _) rfl (wr_all _ _) ?_)
                refine bodyPost_ret (wrong_ret1 rfl _ _ (w.heap.size + 1) (wrV (n) 7) (setRow_heap _ _ _ _ _ _ B9) rfl rfl) rfl ?_
                exact ⟨by rw [hsv], K9.row (by omega) _⟩

/-- A run of the comparison of two instructions. -/
@[go_sem] theorem eq_ins (a b c d n a' b' c' d' n' : Int) (w : World) : (Op.equalIn 10000 50 (.agg #[.int .i64 a, .int .i64 b, .int .i64 c, .int .i64 d, .int .u64 n]) (.agg #[.int .i64 a', .int .i64 b', .int .i64 c', .int .i64 d', .int .u64 n'])).run Tryd.prog w = .ok (a == a' && b == b' && c == c' && d == d' && n == n') w := by
  have u3 := Tryd.underlying3
  have a3 := Tryd.isAgg3
  have z3 := Tryd.sizeOf3
  have u4 := Tryd.underlying47
  have a4 := Tryd.isAgg47
  have z4 := Tryd.sizeOf47
  have u5 := Tryd.underlying48
  have a5 := Tryd.isAgg48
  have z5 := Tryd.sizeOf48
  have hS : Tryd.prog.underlying 50 = some (.struct (Tryd.prog.fieldsOf 50)) := by kernel_rfl
  rw [show (10000 : Nat) = 9999 + 1 from rfl, run_equalIn_agg w 9999 50 _ _ hS (by kernel_rfl)]
  simp only [Program.fieldsOf, Tryd.underlying50]
  go_simp
  by_cases h1 : a = a' <;> by_cases h2 : b = b' <;> by_cases h3 : c = c' <;> by_cases h4 : d = d' <;> by_cases h5 : n = n' <;> simp [h1, h2, h3, h4, h5]
theorem InsAt.at2 {w : World} {v : Value} {L : List I5} (h : InsAt w v L) (k : Nat) (hk : k < L.length) : ∃ g off cap, v = .slice (some ⟨g, off, none⟩) L.length cap ∧ w.cell? ⟨g, off + k * 5, none⟩ = some (.int .i64 (L[k]).op) ∧ w.cell? ⟨g, off + k * 5 + 1, none⟩ = some (.int .i64 (L[k]).a) ∧ w.cell? ⟨g, off + k * 5 + 2, none⟩ = some (.int .i64 (L[k]).b) ∧ w.cell? ⟨g, off + k * 5 + 3, none⟩ = some (.int .i64 (L[k]).c) ∧ w.cell? ⟨g, off + k * 5 + 4, none⟩ = some (.int .u64 (L[k]).n) := by
  obtain ⟨⟨a, cap, rfl, hc⟩, -, -⟩ := h
  obtain ⟨g, off, rfl, q⟩ := hc k hk
  exact ⟨g, off, cap, rfl, q⟩
set_option maxRecDepth 100000 in
set_option maxHeartbeats 4000000 in
theorem samecode_any (va vb : Value) (L : List I5) (w : World) (ha : InsAt w va L) (hb : InsAt w vb L) : Calls Tryd.prog 39 #[va, vb] w fun e w' => e = .returned (.bool true) ∧ Keeps (fun _ => False) w w' := by
  have HA : Hid (∀ X, Keeps (fun _ => False) w X → InsAt X va L) := fun X k => ha.keeps k
  have HB : Hid (∀ X, Keeps (fun _ => False) w X → InsAt X vb L) := fun X k => hb.keeps k
  have hbig := ha.big
  have k0 := Keeps.refl (fun _ => False) w
  obtain ⟨⟨a0, c0, rfl, _⟩, -, -⟩ := ha
  obtain ⟨⟨a1, c1, rfl, _⟩, -, -⟩ := hb
  go_enter Tryd.func39, Tryd.ntmps39
  go_wp2_with fail
  go_loopw [5] (fun u wr => ∃ (k : Nat), u = .int .i64 k ∧ k ≤ L.length ∧ Keeps (fun _ => False) w wr) (fun u _ => L.length - (intOf u).toNat)
  case atStart => exact ⟨0, rfl, Nat.zero_le _, k0⟩
  case round =>
    obtain ⟨k, rfl, hk, kr⟩ := hrel
    by_cases hlt : k < L.length
    · obtain ⟨ga, off, cap, hv, x0, x1, x2, x3, x4⟩ := (HA.out wr kr).at2 k hlt
      simp only [Value.slice.injEq] at hv
      obtain ⟨rfl, -, rfl⟩ := hv
      obtain ⟨gb, offb, capb, hv, y0, y1, y2, y3, y4⟩ := (HB.out wr kr).at2 k hlt
      simp only [Value.slice.injEq] at hv
      obtain ⟨rfl, -, rfl⟩ := hv
      have hki : (k : Int) < L.length := by omega
      generalize L[k]'hlt = i at *
      obtain ⟨op, a, b, c, N⟩ := i
      dsimp only at x0 x1 x2 x3 x4 y0 y1 y2 y3 y4
      go_wp2_with fail
      go_quiet (fail)
      go_wp2_with fail
      go_roundw
      · exact ⟨k + 1, by simp, by omega, kr.drewN _⟩
      · simp [intOf]; omega
    · obtain rfl : k = L.length := by omega
      go_wp2_with fail
      go_ret
      exact ⟨rfl, kr⟩
set_option maxRecDepth 100000 in
set_option maxHeartbeats 4000000 in
theorem left_any (v : Value) (L : List I5) (g cap : Nat) (w : World) (h : InsAt w v L) (hB : InsB w g (L ++ [i7])) (hc : L.length + 1 ≤ cap) (hb : (L.length + 1) * 40 ≤ 140737488355328) : Calls Tryd.prog 21 #[.slice (some ⟨g, 0, none⟩) L.length cap, v] w fun e w' => e = .returned (.bool true) ∧ Keeps (fun _ => False) w w' := by
  have hwf := h.wf
  have IB := (hB.take L.length).insAt cap (by simpa using hwf) (by simp; omega)
  rw [List.take_left] at IB
  have SC := samecode_any _ v L w IB h
  have HC : Hid (∀ X, Keeps (fun _ => False) w X → X.cell? ⟨g, L.length * 5, none⟩ = some (.int .i64 (-7))) := fun X kX => by
    obtain ⟨c, h1, h2, h3⟩ := hB.keeps kX (fun f => f)
    have := h3 L.length (by simp) 0 (by omega)
    rw [cell_of_block h1]
    simpa [i7] using this
  obtain ⟨⟨a0, c0, rfl, _⟩, -, -⟩ := h
  have hc1 : (L.length : Int) + 1 ≤ cap := by omega
  have hc2 : (L.length : Int) < (L.length : Int) + 1 := by omega
  clear hB IB hwf
  go_enter Tryd.func21, Tryd.ntmps21
  go_wp2_with fail
  refine SC.mono ?_
  rintro e w1 ⟨rfl, k1⟩
  have q1 := HC.out w1 k1
  clear SC HC
  go_wp2_with fail
  go_ret
  exact ⟨rfl, k1⟩
end Go.Proofs.YtljapgoeomedkaaDoor
