
/- EventsSwaps: the law's walk (package parleylaw13). No statement of the seat is proved here. -/
import Derived.Test.YtdjkohbchmbofaaDoorEvT
import Derived.Test.YtdjkohbchmbofaaDoorEvK
import Derived.Test.YtdjkohbchmbofaaDoorEvV
import Derived.Test.YtdjkohbchmbofaaDoorEvY
namespace Go.Proofs.YtdjkohbchmbofaaDoor
open Go.RowKit Go.Shelf

theorem clock_any (k : Int) (w : World) : Calls Tryd.prog 33 #[.int .i64 k] w fun e w' => e = .returned (.bool (clockB k)) ∧ w' = w := by
  by_cases h1 : k = 1
  · subst h1
    go_enter Tryd.func33, Tryd.ntmps33
    go_wp2
    go_ret
    exact ⟨rfl, rfl⟩
  · by_cases h4 : k = 4
    · subst h4
      go_enter Tryd.func33, Tryd.ntmps33
      go_wp2
      go_ret
      exact ⟨rfl, rfl⟩
    · by_cases h5 : k = 5
      · subst h5
        go_enter Tryd.func33, Tryd.ntmps33
        go_wp2
        go_ret
        exact ⟨rfl, rfl⟩
      · by_cases h6 : k = 6
        · subst h6
          go_enter Tryd.func33, Tryd.ntmps33
          go_wp2
          go_ret
          exact ⟨rfl, rfl⟩
        · go_enter Tryd.func33, Tryd.ntmps33
          go_wp2
          go_ret
          exact ⟨by simp [clockB, h1, h4, h5, h6], rfl⟩
theorem tmod_in {a m : Int} (hm : 0 < m) : -m < a.tmod m ∧ a.tmod m < m := by
  constructor
  · rcases Int.le_total 0 a with h | h
    · have := Int.tmod_nonneg m h; omega
    · have := Int.tmod_lt_of_pos (-a) hm
      rw [Int.neg_tmod] at this; omega
  · exact Int.tmod_lt_of_pos a hm
set_option maxRecDepth 100000 in
set_option maxHeartbeats 16000000 in
theorem swaps_law (v : Value) (L : List Ev) (at' : Int) (_h0 : -9223372036854775808 ≤ at') (_h1 : at' < 9223372036854775808) (w : World) (hv : EvsAt w v L) (hg : Gv w) (h8 : 8 ≤ w.heap.size) :
    Calls Tryd.prog 8 #[v, .int .i64 at'] w fun ex w' => ex = .returned (.bool true) ∧ Keeps (fun _ => False) w w' := by
  have KN := known_any
  have hmx : Tryd.prog.follows .mixedOrders = true := by kernel_rfl
  have hwf0 : Hid (∀ e ∈ L, e.wf) := hv.wf
  have hbg0 : Hid (L.length * 48 ≤ 140737488351232) := hv.big
  have HG : Hid (∀ X, Keeps (fun _ => False) w X → Gv X ∧ 8 ≤ X.heap.size) := fun X k => ⟨hg.keeps k, Nat.le_trans h8 k.size⟩
  have HE : Hid (∀ X, Keeps (fun _ => False) w X → EvsAt X v L) := fun X k => hv.keeps k
  have hbig := hv.big
  have hlen : L.length ≤ 4611686018427387 := by omega
  obtain ⟨a, cap, rfl, hcap, _⟩ := hv.els.form
  have K0 := KN w hg h8
  clear hg h8 hv hbig
  by_cases hl : L.length < 2
  · have hd : decide ((L.length : Int) < 2) = true := decide_eq_true (by omega)
    go_enter Tryd.func8, Tryd.ntmps8
    go_wp2_with fail
    refine K0.mono ?_
    rintro ex w1 ⟨rfl, k1⟩
    go_wp2_with fail
    refine (KN w1 (HG.out _ k1).1 (HG.out _ k1).2).mono ?_
    rintro ex w2 ⟨rfl, k2⟩
    go_wp2_with fail
    go_ret
    exact ⟨rfl, k1.trans k2⟩
  · have hd : decide ((L.length : Int) < 2) = false := decide_eq_false (by omega)
    obtain ⟨hr0, hr1⟩ := tmod_in (a := at') (m := (L.length : Int) - 1) (by omega)
    generalize hr : at'.tmod ((L.length : Int) - 1) = r at hr0 hr1
    go_enter Tryd.func8, Tryd.ntmps8
    go_wp2_with fail
    refine K0.mono ?_
    rintro ex w1 ⟨rfl, k1⟩
    clear K0
    go_wp2_with fail
    · obtain ⟨N, hN⟩ := Int.eq_ofNat_of_zero_le (a := r + (L.length : Int) - 1) (by omega)
      have hN1 : N + 1 < L.length := by omega
      simp only [hN]
      clear hN
      have hN0 : N < L.length := by omega
      have hE1 := HE.out _ k1
      obtain ⟨g, off, rfl, x0, x1, x2, x3, x4, x5⟩ := hE1.at N hN0
      obtain ⟨g', off', hgo, y0, y1, y2, y3, y4, y5⟩ := hE1.at (N + 1) hN1
      simp only [Option.some.injEq, Addr.mk.injEq, and_true] at hgo
      obtain ⟨rfl, rfl⟩ := hgo
      have SW : Hid (clockB (L[N]'hN0).kd = false → clockB (L[N + 1]'hN1).kd = false → (L[N]'hN0).th ≠ (L[N + 1]'hN1).th → ((checkL L).2 = 0 ↔ (checkL ((L.set N (L[N + 1]'hN1)).set (N + 1) (L[N]'hN0))).2 = 0)) := swap_all hN1
      generalize hA : (L[N]'hN0) = A at *
      generalize hB : (L[N + 1]'hN1) = B at *
      obtain ⟨ath, akd, aad, awd, aown, aer⟩ := A
      obtain ⟨bth, bkd, bad, bwd, bown, ber⟩ := B
      dsimp only at x0 x1 x2 x3 x4 x5 y0 y1 y2 y3 y4 y5
      have HA : Hid ((L[N]'hN0) = _) := hA
      have HB : Hid ((L[N + 1]'hN1) = _) := hB
      clear hA hB
      have n0 : (0 : Int) ≤ N := by omega
      have n1 : (N : Int) < L.length := by omega
      have n2 : (0 : Int) ≤ (N : Int) + 1 := by omega
      have n3 : (N : Int) + 1 < L.length := by omega
      have wr1 : IntKind.i64.wrap ((N : Int) + 1) = (N : Int) + 1 := by simp [IntKind.wrap, IntKind.signed, IntKind.bits]; omega
      have tn1 : ((N : Int) + 1).toNat = N + 1 := by omega
      clear hr0 hr1 hr hd hl hE1
      have hS0 : w1.cell? ⟨g, off + N * 6, none⟩ = some (.int .i64 ath) ∧ w1.cell? ⟨g, off + N * 6 + 1, none⟩ = some (.int .i64 akd) ∧ w1.cell? ⟨g, off + N * 6 + 2, none⟩ = some (.int .u64 aad) ∧ w1.cell? ⟨g, off + N * 6 + 3, none⟩ = some (.int .u64 awd) ∧ w1.cell? ⟨g, off + N * 6 + 4, none⟩ = some (.bool aown) ∧ w1.cell? ⟨g, off + N * 6 + 5, none⟩ = some (.int .i64 aer) ∧
          w1.cell? ⟨g, off + (N + 1) * 6, none⟩ = some (.int .i64 bth) ∧ w1.cell? ⟨g, off + (N + 1) * 6 + 1, none⟩ = some (.int .i64 bkd) ∧ w1.cell? ⟨g, off + (N + 1) * 6 + 2, none⟩ = some (.int .u64 bad) ∧ w1.cell? ⟨g, off + (N + 1) * 6 + 3, none⟩ = some (.int .u64 bwd) ∧ w1.cell? ⟨g, off + (N + 1) * 6 + 4, none⟩ = some (.bool bown) ∧ w1.cell? ⟨g, off + (N + 1) * 6 + 5, none⟩ = some (.int .i64 ber) := ⟨x0, x1, x2, x3, x4, x5, y0, y1, y2, y3, y4, y5⟩
      have e0 := World.new_ne w1 _ x0
      have e1 := World.new_ne w1 _ y0
      go_region_held3 (fun W : World => W.cell? ⟨g, off + N * 6, none⟩ = some (.int .i64 ath) ∧ W.cell? ⟨g, off + N * 6 + 1, none⟩ = some (.int .i64 akd) ∧ W.cell? ⟨g, off + N * 6 + 2, none⟩ = some (.int .u64 aad) ∧ W.cell? ⟨g, off + N * 6 + 3, none⟩ = some (.int .u64 awd) ∧ W.cell? ⟨g, off + N * 6 + 4, none⟩ = some (.bool aown) ∧ W.cell? ⟨g, off + N * 6 + 5, none⟩ = some (.int .i64 aer) ∧
          W.cell? ⟨g, off + (N + 1) * 6, none⟩ = some (.int .i64 bth) ∧ W.cell? ⟨g, off + (N + 1) * 6 + 1, none⟩ = some (.int .i64 bkd) ∧ W.cell? ⟨g, off + (N + 1) * 6 + 2, none⟩ = some (.int .u64 bad) ∧ W.cell? ⟨g, off + (N + 1) * 6 + 3, none⟩ = some (.int .u64 bwd) ∧ W.cell? ⟨g, off + (N + 1) * 6 + 4, none⟩ = some (.bool bown) ∧ W.cell? ⟨g, off + (N + 1) * 6 + 5, none⟩ = some (.int .i64 ber)) (first | assumption | (exact hS0) | go_keep) (fail)
      all_goals clear hS0 x0 x1 x2 x3 x4 x5 y0 y1 y2 y3 y4 y5 e0 e1
      · have kX : Keeps (fun _ => False) w1 (((w1.alloc (.cells #[.int .i64 ath, .int .i64 akd, .int .u64 aad, .int .u64 awd, .bool aown, .int .i64 aer] 44)).alloc (.cells #[.int .i64 bth, .int .i64 bkd, .int .u64 bad, .int .u64 bwd, .bool bown, .int .i64 ber] 44)).drew) := (((Keeps.refl (fun _ => False) w1).alloc _).alloc _).drew
        have b1 : (((w1.alloc (.cells #[.int .i64 ath, .int .i64 akd, .int .u64 aad, .int .u64 awd, .bool aown, .int .i64 aer] 44)).alloc (.cells #[.int .i64 bth, .int .i64 bkd, .int .u64 bad, .int .u64 bwd, .bool bown, .int .i64 ber] 44)).drew).heap[w1.heap.size]? = some (.cells #[.int .i64 ath, .int .i64 akd, .int .u64 aad, .int .u64 awd, .bool aown, .int .i64 aer] 44 (0, 0)) := (((Keeps.refl (fun _ => False) _).alloc _).block _ (lt_of_block (MapKept.heap_alloc w1 (.cells #[.int .i64 ath, .int .i64 akd, .int .u64 aad, .int .u64 awd, .bool aown, .int .i64 aer] 44)).1) (fun f => f)).trans (MapKept.heap_alloc w1 (.cells #[.int .i64 ath, .int .i64 akd, .int .u64 aad, .int .u64 awd, .bool aown, .int .i64 aer] 44)).1
        have b2 : (((w1.alloc (.cells #[.int .i64 ath, .int .i64 akd, .int .u64 aad, .int .u64 awd, .bool aown, .int .i64 aer] 44)).alloc (.cells #[.int .i64 bth, .int .i64 bkd, .int .u64 bad, .int .u64 bwd, .bool bown, .int .i64 ber] 44)).drew).heap[w1.heap.size + 1]? = some (.cells #[.int .i64 bth, .int .i64 bkd, .int .u64 bad, .int .u64 bwd, .bool bown, .int .i64 ber] 44 (0, 0)) := by have := (MapKept.heap_alloc (w1.alloc (.cells #[.int .i64 ath, .int .i64 akd, .int .u64 aad, .int .u64 awd, .bool aown, .int .i64 aer] 44)) (.cells #[.int .i64 bth, .int .i64 bkd, .int .u64 bad, .int .u64 bwd, .bool bown, .int .i64 ber] 44)).1; rw [show (w1.alloc _).heap.size = w1.heap.size + 1 by simp] at this; exact this
        generalize ((w1.alloc (.cells #[.int .i64 ath, .int .i64 akd, .int .u64 aad, .int .u64 awd, .bool aown, .int .i64 aer] 44)).alloc (.cells #[.int .i64 bth, .int .i64 bkd, .int .u64 bad, .int .u64 bwd, .bool bown, .int .i64 ber] 44)).drew = X at *
        have hpq : w1.heap.size ≠ w1.heap.size + 1 := by omega
        have c0 : X.cell? ⟨w1.heap.size, 0, none⟩ = some (.int .i64 ath) := by rw [cell_of_block b1]; rfl
        have c1 : X.cell? ⟨w1.heap.size, 1, none⟩ = some (.int .i64 akd) := by rw [cell_of_block b1]; rfl
        have c2 : X.cell? ⟨w1.heap.size, 2, none⟩ = some (.int .u64 aad) := by rw [cell_of_block b1]; rfl
        have c3 : X.cell? ⟨w1.heap.size, 3, none⟩ = some (.int .u64 awd) := by rw [cell_of_block b1]; rfl
        have c4 : X.cell? ⟨w1.heap.size, 4, none⟩ = some (.bool aown) := by rw [cell_of_block b1]; rfl
        have c5 : X.cell? ⟨w1.heap.size, 5, none⟩ = some (.int .i64 aer) := by rw [cell_of_block b1]; rfl
        have d0 : X.cell? ⟨w1.heap.size + 1, 0, none⟩ = some (.int .i64 bth) := by rw [cell_of_block b2]; rfl
        have d1 : X.cell? ⟨w1.heap.size + 1, 1, none⟩ = some (.int .i64 bkd) := by rw [cell_of_block b2]; rfl
        have d2 : X.cell? ⟨w1.heap.size + 1, 2, none⟩ = some (.int .u64 bad) := by rw [cell_of_block b2]; rfl
        have d3 : X.cell? ⟨w1.heap.size + 1, 3, none⟩ = some (.int .u64 bwd) := by rw [cell_of_block b2]; rfl
        have d4 : X.cell? ⟨w1.heap.size + 1, 4, none⟩ = some (.bool bown) := by rw [cell_of_block b2]; rfl
        have d5 : X.cell? ⟨w1.heap.size + 1, 5, none⟩ = some (.int .i64 ber) := by rw [cell_of_block b2]; rfl
        have CK : ∀ k W, Calls Tryd.prog 33 #[.int .i64 k] W fun e w' => e = .returned (.bool (clockB k)) ∧ W = w' := fun k W => (clock_any k W).mono (fun e w' h => ⟨h.1, h.2.symm⟩)
        by_cases hth : ath = bth
        · subst hth
          go_wp2_with fail
          go_ret
          exact ⟨rfl, k1.trans kX⟩
        · have hdt : decide (ath = bth) = false := decide_eq_false hth
          cases hca : clockB akd with
          | true =>
            go_wp2_with (go_at_call 33; refine (CK _ _).mono ?_; rintro ex w' ⟨rfl, rfl⟩; rw [hca])
            go_ret
            exact ⟨rfl, k1.trans kX⟩
          | false =>
            cases hcb : clockB bkd with
            | true =>
              go_wp2_with (go_at_call 33; refine (CK _ _).mono ?_; rintro ex w' ⟨rfl, rfl⟩; first | rw [hca] | rw [hcb])
              go_ret
              exact ⟨rfl, k1.trans kX⟩
            | false =>
              have hEX := HE.out _ (k1.trans kX)
              obtain ⟨v', X2, r1, o1, gr⟩ := (OwnR.nil Ev.cl 6 44 X).app ev_len ev_one (by decide) Tryd.underlying22 info_ev rfl (by decide) (ty := 22) _ L hEX.els (by have := hEX.big; simp; omega)
              have kA := OwnR.kept gr (Keeps.refl _ X) (OwnR.nil Ev.cl 6 44 X)
              simp only [List.nil_append] at o1
              obtain ⟨g2, cap2, cur, rfl, hg2, hb2, hcur⟩ := o1.at (by omega)
              have HR1 : Hid _ := r1
              clear hEX gr r1
              go_wp2_with (first | (at_builtin; refine wpList_append_run rfl _ _ 22 rfl rfl rfl HR1.out ?_; clear HR1) | (go_at_call 33; refine (CK _ _).mono ?_; rintro ex w' ⟨rfl, rfl⟩; first | rw [hca] | rw [hcb]))
              have BA := (kA.block _ (lt_of_block b1) (fun f => f)).trans b1
              have BB := (kA.block _ (lt_of_block b2) (fun f => f)).trans b2
              have l1 := lt_of_block b1
              have l2 := lt_of_block b2
              have ne1 : ¬ w1.heap.size = g2 := by omega
              have ne2 : ¬ w1.heap.size + 1 = g2 := by omega
              clear c0 c1 c2 c3 c4 c5 d0 d1 d2 d3 d4 d5
              have hS1 : X2.drew.heap[w1.heap.size]? = some (.cells #[.int .i64 ath, .int .i64 akd, .int .u64 aad, .int .u64 awd, .bool aown, .int .i64 aer] 44 (0, 0)) ∧ X2.drew.heap[w1.heap.size + 1]? = some (.cells #[.int .i64 bth, .int .i64 bkd, .int .u64 bad, .int .u64 bwd, .bool bown, .int .i64 ber] 44 (0, 0)) := ⟨BA, BB⟩
              have KS1 := cells_keeps (g := g2) (Ev.cl ⟨bth, bkd, bad, bwd, bown, ber⟩) (N * 6) X2.drew
              have hS2 : (X2.drew.setCells g2 (N * 6) (Ev.cl ⟨bth, bkd, bad, bwd, bown, ber⟩)).heap[w1.heap.size]? = some (.cells #[.int .i64 ath, .int .i64 akd, .int .u64 aad, .int .u64 awd, .bool aown, .int .i64 aer] 44 (0, 0)) ∧ (X2.drew.setCells g2 (N * 6) (Ev.cl ⟨bth, bkd, bad, bwd, bown, ber⟩)).heap[w1.heap.size + 1]? = some (.cells #[.int .i64 bth, .int .i64 bkd, .int .u64 bad, .int .u64 bwd, .bool bown, .int .i64 ber] 44 (0, 0)) := ⟨(KS1.block _ (lt_of_block BA) ne1).trans BA, (KS1.block _ (lt_of_block BB) ne2).trans BB⟩
              have KS2 := cells_keeps (g := g2) (Ev.cl ⟨ath, akd, aad, awd, aown, aer⟩) ((N + 1) * 6) (X2.drew.setCells g2 (N * 6) (Ev.cl ⟨bth, bkd, bad, bwd, bown, ber⟩))
              have hS3 : ((X2.drew.setCells g2 (N * 6) (Ev.cl ⟨bth, bkd, bad, bwd, bown, ber⟩)).setCells g2 ((N + 1) * 6) (Ev.cl ⟨ath, akd, aad, awd, aown, aer⟩)).heap[w1.heap.size]? = some (.cells #[.int .i64 ath, .int .i64 akd, .int .u64 aad, .int .u64 awd, .bool aown, .int .i64 aer] 44 (0, 0)) ∧ ((X2.drew.setCells g2 (N * 6) (Ev.cl ⟨bth, bkd, bad, bwd, bown, ber⟩)).setCells g2 ((N + 1) * 6) (Ev.cl ⟨ath, akd, aad, awd, aown, aer⟩)).heap[w1.heap.size + 1]? = some (.cells #[.int .i64 bth, .int .i64 bkd, .int .u64 bad, .int .u64 bwd, .bool bown, .int .i64 ber] 44 (0, 0)) := ⟨(KS2.block _ (lt_of_block hS2.1) ne1).trans hS2.1, (KS2.block _ (lt_of_block hS2.2) ne2).trans hS2.2⟩
              have O1 : OwnR Ev.cl 6 44 X2.drew X.heap.size (.slice (some ⟨g2, 0, none⟩) L.length cap2) L := o1.keeps (Keeps.refl (fun _ => False) X2).drew (fun _ _ f => f)
              have O2 := O1.setEv N ⟨bth, bkd, bad, bwd, bown, ber⟩ (by omega)
              have O3 := O2.setEv (N + 1) ⟨ath, akd, aad, awd, aown, aer⟩ (by simpa using hN1)
              have th1 : X2.drew.there g2 (N * 6) 6 := there_of hb2 (by omega)
              have th2 : (X2.drew.setCells g2 (N * 6) (Ev.cl ⟨bth, bkd, bad, bwd, bown, ber⟩)).there g2 ((N + 1) * 6) 6 := World.there_setCells (there_of (w := X2.drew) hb2 (by omega)) _ _ _
              have K3 := (kX.trans kA).young ((Keeps.refl (fun q => q = g2) X2).drew.trans (KS1.trans KS2)) (fun q hq => by have := kX.size; omega)
              have HM : Hid (OwnR Ev.cl 6 44 _ X.heap.size _ _) := O3
              clear O1 O2 O3 KS1 KS2 BA BB o1 kA
              generalize hX3 : (X2.drew.setCells g2 (N * 6) (Ev.cl ⟨bth, bkd, bad, bwd, bown, ber⟩)).setCells g2 ((N + 1) * 6) (Ev.cl ⟨ath, akd, aad, awd, aown, aer⟩) = X3 at *
              have HX3 : Hid (_ = X3) := hX3
              clear hX3
              refine wp_held_end (S := fun W => W.heap[w1.heap.size]? = some (.cells #[.int .i64 ath, .int .i64 akd, .int .u64 aad, .int .u64 awd, .bool aown, .int .i64 aer] 44 (0, 0)) ∧ W.heap[w1.heap.size + 1]? = some (.cells #[.int .i64 bth, .int .i64 bkd, .int .u64 bad, .int .u64 bwd, .bool bown, .int .i64 ber] 44 (0, 0))) 11 rfl hmx ?_
              simp only [Array.replicate_succ, Array.replicate_zero, List.push_toArray, List.nil_append, List.cons_append]
              refine held_take (i := 0) (v := .slice (some ⟨g2, 0, none⟩) L.length cap2) 55 rfl rfl (by kernel_rfl) (by kernel_rfl) (by kernel_rfl) rfl (fun w' hw' => by go_simp) hS1 ?_
              simp only [Act.put, List.setIfInBounds_toArray, List.set_cons_zero, List.set_cons_succ]
              refine held_take (i := 1) (v := .int .i64 (N : Int)) 56 rfl rfl (by kernel_rfl) (by kernel_rfl) (by kernel_rfl) rfl (fun w' hw' => by go_simp) hS1 ?_
              simp only [Act.put, List.setIfInBounds_toArray, List.set_cons_zero, List.set_cons_succ]
              refine held_take (i := 2) (v := .slice (some ⟨g2, 0, none⟩) L.length cap2) 57 rfl rfl (by kernel_rfl) (by kernel_rfl) (by kernel_rfl) rfl (fun w' hw' => by go_simp) hS1 ?_
              simp only [Act.put, List.setIfInBounds_toArray, List.set_cons_zero, List.set_cons_succ]
              refine held_take (i := 3) (v := .int .i64 (N : Int)) 58 rfl rfl (by kernel_rfl) (by kernel_rfl) (by kernel_rfl) rfl (fun w' hw' => by go_simp) hS1 ?_
              simp only [Act.put, List.setIfInBounds_toArray, List.set_cons_zero, List.set_cons_succ]
              refine held_take (i := 4) (v := .int .i64 ((N : Int) + 1)) 59 rfl rfl (by kernel_rfl) (by kernel_rfl) (by kernel_rfl) rfl (fun w' hw' => by go_simp) hS1 ?_
              simp only [Act.put, List.setIfInBounds_toArray, List.set_cons_zero, List.set_cons_succ]
              refine held_take (i := 5) (v := .agg #[.int .i64 bth, .int .i64 bkd, .int .u64 bad, .int .u64 bwd, .bool bown, .int .i64 ber]) 60 rfl rfl (by kernel_rfl) (by kernel_rfl) (by kernel_rfl) rfl (fun w' hw' => by obtain ⟨q0, q1, q2, q3, q4, q5⟩ := blk6 hw'.2; go_simp) hS1 ?_
              simp only [Act.put, List.setIfInBounds_toArray, List.set_cons_zero, List.set_cons_succ]
              refine held_take (i := 6) (v := .agg #[.int .i64 ath, .int .i64 akd, .int .u64 aad, .int .u64 awd, .bool aown, .int .i64 aer]) 61 rfl rfl (by kernel_rfl) (by kernel_rfl) (by kernel_rfl) rfl (fun w' hw' => by obtain ⟨q0, q1, q2, q3, q4, q5⟩ := blk6 hw'.1; go_simp) hS1 ?_
              simp only [Act.put, List.setIfInBounds_toArray, List.set_cons_zero, List.set_cons_succ]
              refine held_take (i := 7) (v := .pointer (some ⟨g2, N * 6, none⟩)) 62 rfl rfl (by kernel_rfl) (by kernel_rfl) (by kernel_rfl) rfl (fun w' hw' => by go_simp) hS1 ?_
              simp only [Act.put, List.setIfInBounds_toArray, List.set_cons_zero, List.set_cons_succ]
              refine held_none (i := 8) (w' := X2.drew.setCells g2 (N * 6) (Ev.cl ⟨bth, bkd, bad, bwd, bown, ber⟩)) (by kernel_rfl) rfl rfl rfl (run_store_mid_op rfl g2 (N * 6) #[.int .i64 bth, .int .i64 bkd, .int .u64 bad, .int .u64 bwd, .bool bown, .int .i64 ber] rfl rfl th1 (by kernel_rfl) (by simp [Value.oneCell'])) hS2 ?_
              simp only [List.setIfInBounds_toArray, List.set_cons_zero, List.set_cons_succ]
              refine held_take (i := 9) (v := .pointer (some ⟨g2, (N + 1) * 6, none⟩)) 63 rfl rfl (by kernel_rfl) (by kernel_rfl) (by kernel_rfl) rfl (fun w' hw' => by go_simp) hS2 ?_
              simp only [Act.put, List.setIfInBounds_toArray, List.set_cons_zero, List.set_cons_succ]
              refine held_none (i := 10) (w' := X3) (by kernel_rfl) rfl rfl rfl (by rw [← HX3.out]; exact run_store_mid_op rfl g2 ((N + 1) * 6) #[.int .i64 ath, .int .i64 akd, .int .u64 aad, .int .u64 awd, .bool aown, .int .i64 aer] rfl rfl th2 (by kernel_rfl) (by simp [Value.oneCell'])) hS3 ?_
              refine held_end (by kernel_rfl) ?_ _
              have K4 := k1.trans K3
              have CH1 := check_any _ L X3 (HE.out _ K4) (HG.out _ K4).1 (HG.out _ K4).2
              have M := HM.out
              have wf2 : ∀ e ∈ (L.set N ⟨bth, bkd, bad, bwd, bown, ber⟩).set (N + 1) ⟨ath, akd, aad, awd, aown, aer⟩, e.wf := fun e he => by
                rcases List.mem_or_eq_of_mem_set he with he | rfl
                · rcases List.mem_or_eq_of_mem_set he with he | rfl
                  · exact hwf0.out e he
                  · rw [← HB.out]; exact hwf0.out _ (List.getElem_mem _)
                · rw [← HA.out]; exact hwf0.out _ (List.getElem_mem _)
              have CH2 : ∀ W, Keeps (fun _ => False) X3 W → Calls Tryd.prog 16 #[.slice (some ⟨g2, 0, none⟩) L.length cap2] W fun ex w' => ex = .returned (.agg (odV (checkL ((L.set N ⟨bth, bkd, bad, bwd, bown, ber⟩).set (N + 1) ⟨ath, akd, aad, awd, aown, aer⟩)).1 (checkL ((L.set N ⟨bth, bkd, bad, bwd, bown, ber⟩).set (N + 1) ⟨ath, akd, aad, awd, aown, aer⟩)).2)) ∧ Keeps (fun _ => False) W w' := fun W k =>
                check_any _ _ W ⟨(M.els ev_len).keeps ev_ne k, wf2, by simpa using hbg0.out⟩ (HG.out _ (K4.trans k)).1 (HG.out _ (K4.trans k)).2
              have NN := num_any
              have sw := SW.out hca hcb hth
              generalize (L.set N ⟨bth, bkd, bad, bwd, bown, ber⟩).set (N + 1) ⟨ath, akd, aad, awd, aown, aer⟩ = L2 at *
              generalize checkL L = z at *
              generalize checkL L2 = z2 at *
              obtain ⟨za, ze⟩ := z
              obtain ⟨ya, ye⟩ := z2
              unfold odV at CH1 CH2
              dsimp only at CH1 CH2 sw
              clear M HM wf2 th1 th2 hS1 hS2 hS3 HX3 hb2 hcur l1 l2 ne1 ne2 b1 b2 HA HB SW CK hca hcb hdt hth KN
              by_cases hz : ze = 0
              · obtain rfl := sw.1 hz
                subst hz
                clear sw
                go_wp2_with fail
                refine CH1.mono ?_
                rintro ex X4 ⟨rfl, k4⟩
                go_wp2_with (go_at_call 29; refine (NN _ _).mono ?_; rintro ex w' ⟨rfl, rfl⟩)
                refine (CH2 _ k4).mono ?_
                rintro ex X5 ⟨rfl, k5⟩
                go_wp2_with (go_at_call 29; refine (NN _ _).mono ?_; rintro ex w' ⟨rfl, rfl⟩)
                go_ret
                exact ⟨by first | rfl | simp, (K4.trans k4).trans k5⟩
              · have hy : ye ≠ 0 := fun h => hz (sw.2 h)
                have q1 : (ze == 0) = false := by simpa using hz
                have q2 : (ye == 0) = false := by simpa using hy
                clear sw
                go_wp2_with fail
                refine CH1.mono ?_
                rintro ex X4 ⟨rfl, k4⟩
                go_wp2_with (go_at_call 29; refine (NN _ _).mono ?_; rintro ex w' ⟨rfl, rfl⟩)
                refine (CH2 _ k4).mono ?_
                rintro ex X5 ⟨rfl, k5⟩
                go_wp2_with (go_at_call 29; refine (NN _ _).mono ?_; rintro ex w' ⟨rfl, rfl⟩)
                go_ret
                exact ⟨by first | rfl | simp [q1, q2, hz, hy], (K4.trans k4).trans k5⟩
      · have kX : Keeps (fun _ => False) w1 (((w1.alloc (.cells #[.int .i64 bth, .int .i64 bkd, .int .u64 bad, .int .u64 bwd, .bool bown, .int .i64 ber] 44)).alloc (.cells #[.int .i64 ath, .int .i64 akd, .int .u64 aad, .int .u64 awd, .bool aown, .int .i64 aer] 44)).drew) := (((Keeps.refl (fun _ => False) w1).alloc _).alloc _).drew
        have b1 : (((w1.alloc (.cells #[.int .i64 bth, .int .i64 bkd, .int .u64 bad, .int .u64 bwd, .bool bown, .int .i64 ber] 44)).alloc (.cells #[.int .i64 ath, .int .i64 akd, .int .u64 aad, .int .u64 awd, .bool aown, .int .i64 aer] 44)).drew).heap[w1.heap.size]? = some (.cells #[.int .i64 bth, .int .i64 bkd, .int .u64 bad, .int .u64 bwd, .bool bown, .int .i64 ber] 44 (0, 0)) := (((Keeps.refl (fun _ => False) _).alloc _).block _ (lt_of_block (MapKept.heap_alloc w1 (.cells #[.int .i64 bth, .int .i64 bkd, .int .u64 bad, .int .u64 bwd, .bool bown, .int .i64 ber] 44)).1) (fun f => f)).trans (MapKept.heap_alloc w1 (.cells #[.int .i64 bth, .int .i64 bkd, .int .u64 bad, .int .u64 bwd, .bool bown, .int .i64 ber] 44)).1
        have b2 : (((w1.alloc (.cells #[.int .i64 bth, .int .i64 bkd, .int .u64 bad, .int .u64 bwd, .bool bown, .int .i64 ber] 44)).alloc (.cells #[.int .i64 ath, .int .i64 akd, .int .u64 aad, .int .u64 awd, .bool aown, .int .i64 aer] 44)).drew).heap[w1.heap.size + 1]? = some (.cells #[.int .i64 ath, .int .i64 akd, .int .u64 aad, .int .u64 awd, .bool aown, .int .i64 aer] 44 (0, 0)) := by have := (MapKept.heap_alloc (w1.alloc (.cells #[.int .i64 bth, .int .i64 bkd, .int .u64 bad, .int .u64 bwd, .bool bown, .int .i64 ber] 44)) (.cells #[.int .i64 ath, .int .i64 akd, .int .u64 aad, .int .u64 awd, .bool aown, .int .i64 aer] 44)).1; rw [show (w1.alloc _).heap.size = w1.heap.size + 1 by simp] at this; exact this
        generalize ((w1.alloc (.cells #[.int .i64 bth, .int .i64 bkd, .int .u64 bad, .int .u64 bwd, .bool bown, .int .i64 ber] 44)).alloc (.cells #[.int .i64 ath, .int .i64 akd, .int .u64 aad, .int .u64 awd, .bool aown, .int .i64 aer] 44)).drew = X at *
        have hpq : w1.heap.size + 1 ≠ w1.heap.size := by omega
        have c0 : X.cell? ⟨w1.heap.size + 1, 0, none⟩ = some (.int .i64 ath) := by rw [cell_of_block b2]; rfl
        have c1 : X.cell? ⟨w1.heap.size + 1, 1, none⟩ = some (.int .i64 akd) := by rw [cell_of_block b2]; rfl
        have c2 : X.cell? ⟨w1.heap.size + 1, 2, none⟩ = some (.int .u64 aad) := by rw [cell_of_block b2]; rfl
        have c3 : X.cell? ⟨w1.heap.size + 1, 3, none⟩ = some (.int .u64 awd) := by rw [cell_of_block b2]; rfl
        have c4 : X.cell? ⟨w1.heap.size + 1, 4, none⟩ = some (.bool aown) := by rw [cell_of_block b2]; rfl
        have c5 : X.cell? ⟨w1.heap.size + 1, 5, none⟩ = some (.int .i64 aer) := by rw [cell_of_block b2]; rfl
        have d0 : X.cell? ⟨w1.heap.size, 0, none⟩ = some (.int .i64 bth) := by rw [cell_of_block b1]; rfl
        have d1 : X.cell? ⟨w1.heap.size, 1, none⟩ = some (.int .i64 bkd) := by rw [cell_of_block b1]; rfl
        have d2 : X.cell? ⟨w1.heap.size, 2, none⟩ = some (.int .u64 bad) := by rw [cell_of_block b1]; rfl
        have d3 : X.cell? ⟨w1.heap.size, 3, none⟩ = some (.int .u64 bwd) := by rw [cell_of_block b1]; rfl
        have d4 : X.cell? ⟨w1.heap.size, 4, none⟩ = some (.bool bown) := by rw [cell_of_block b1]; rfl
        have d5 : X.cell? ⟨w1.heap.size, 5, none⟩ = some (.int .i64 ber) := by rw [cell_of_block b1]; rfl
        have CK : ∀ k W, Calls Tryd.prog 33 #[.int .i64 k] W fun e w' => e = .returned (.bool (clockB k)) ∧ W = w' := fun k W => (clock_any k W).mono (fun e w' h => ⟨h.1, h.2.symm⟩)
        by_cases hth : ath = bth
        · subst hth
          go_wp2_with fail
          go_ret
          exact ⟨rfl, k1.trans kX⟩
        · have hdt : decide (ath = bth) = false := decide_eq_false hth
          cases hca : clockB akd with
          | true =>
            go_wp2_with (go_at_call 33; refine (CK _ _).mono ?_; rintro ex w' ⟨rfl, rfl⟩; rw [hca])
            go_ret
            exact ⟨rfl, k1.trans kX⟩
          | false =>
            cases hcb : clockB bkd with
            | true =>
              go_wp2_with (go_at_call 33; refine (CK _ _).mono ?_; rintro ex w' ⟨rfl, rfl⟩; first | rw [hca] | rw [hcb])
              go_ret
              exact ⟨rfl, k1.trans kX⟩
            | false =>
              have hEX := HE.out _ (k1.trans kX)
              obtain ⟨v', X2, r1, o1, gr⟩ := (OwnR.nil Ev.cl 6 44 X).app ev_len ev_one (by decide) Tryd.underlying22 info_ev rfl (by decide) (ty := 22) _ L hEX.els (by have := hEX.big; simp; omega)
              have kA := OwnR.kept gr (Keeps.refl _ X) (OwnR.nil Ev.cl 6 44 X)
              simp only [List.nil_append] at o1
              obtain ⟨g2, cap2, cur, rfl, hg2, hb2, hcur⟩ := o1.at (by omega)
              have HR1 : Hid _ := r1
              clear hEX gr r1
              go_wp2_with (first | (at_builtin; refine wpList_append_run rfl _ _ 22 rfl rfl rfl HR1.out ?_; clear HR1) | (go_at_call 33; refine (CK _ _).mono ?_; rintro ex w' ⟨rfl, rfl⟩; first | rw [hca] | rw [hcb]))
              have BA := (kA.block _ (lt_of_block b2) (fun f => f)).trans b2
              have BB := (kA.block _ (lt_of_block b1) (fun f => f)).trans b1
              have l1 := lt_of_block b1
              have l2 := lt_of_block b2
              have ne1 : ¬ w1.heap.size + 1 = g2 := by omega
              have ne2 : ¬ w1.heap.size = g2 := by omega
              clear c0 c1 c2 c3 c4 c5 d0 d1 d2 d3 d4 d5
              have hS1 : X2.drew.heap[w1.heap.size + 1]? = some (.cells #[.int .i64 ath, .int .i64 akd, .int .u64 aad, .int .u64 awd, .bool aown, .int .i64 aer] 44 (0, 0)) ∧ X2.drew.heap[w1.heap.size]? = some (.cells #[.int .i64 bth, .int .i64 bkd, .int .u64 bad, .int .u64 bwd, .bool bown, .int .i64 ber] 44 (0, 0)) := ⟨BA, BB⟩
              have KS1 := cells_keeps (g := g2) (Ev.cl ⟨bth, bkd, bad, bwd, bown, ber⟩) (N * 6) X2.drew
              have hS2 : (X2.drew.setCells g2 (N * 6) (Ev.cl ⟨bth, bkd, bad, bwd, bown, ber⟩)).heap[w1.heap.size + 1]? = some (.cells #[.int .i64 ath, .int .i64 akd, .int .u64 aad, .int .u64 awd, .bool aown, .int .i64 aer] 44 (0, 0)) ∧ (X2.drew.setCells g2 (N * 6) (Ev.cl ⟨bth, bkd, bad, bwd, bown, ber⟩)).heap[w1.heap.size]? = some (.cells #[.int .i64 bth, .int .i64 bkd, .int .u64 bad, .int .u64 bwd, .bool bown, .int .i64 ber] 44 (0, 0)) := ⟨(KS1.block _ (lt_of_block BA) ne1).trans BA, (KS1.block _ (lt_of_block BB) ne2).trans BB⟩
              have KS2 := cells_keeps (g := g2) (Ev.cl ⟨ath, akd, aad, awd, aown, aer⟩) ((N + 1) * 6) (X2.drew.setCells g2 (N * 6) (Ev.cl ⟨bth, bkd, bad, bwd, bown, ber⟩))
              have hS3 : ((X2.drew.setCells g2 (N * 6) (Ev.cl ⟨bth, bkd, bad, bwd, bown, ber⟩)).setCells g2 ((N + 1) * 6) (Ev.cl ⟨ath, akd, aad, awd, aown, aer⟩)).heap[w1.heap.size + 1]? = some (.cells #[.int .i64 ath, .int .i64 akd, .int .u64 aad, .int .u64 awd, .bool aown, .int .i64 aer] 44 (0, 0)) ∧ ((X2.drew.setCells g2 (N * 6) (Ev.cl ⟨bth, bkd, bad, bwd, bown, ber⟩)).setCells g2 ((N + 1) * 6) (Ev.cl ⟨ath, akd, aad, awd, aown, aer⟩)).heap[w1.heap.size]? = some (.cells #[.int .i64 bth, .int .i64 bkd, .int .u64 bad, .int .u64 bwd, .bool bown, .int .i64 ber] 44 (0, 0)) := ⟨(KS2.block _ (lt_of_block hS2.1) ne1).trans hS2.1, (KS2.block _ (lt_of_block hS2.2) ne2).trans hS2.2⟩
              have O1 : OwnR Ev.cl 6 44 X2.drew X.heap.size (.slice (some ⟨g2, 0, none⟩) L.length cap2) L := o1.keeps (Keeps.refl (fun _ => False) X2).drew (fun _ _ f => f)
              have O2 := O1.setEv N ⟨bth, bkd, bad, bwd, bown, ber⟩ (by omega)
              have O3 := O2.setEv (N + 1) ⟨ath, akd, aad, awd, aown, aer⟩ (by simpa using hN1)
              have th1 : X2.drew.there g2 (N * 6) 6 := there_of hb2 (by omega)
              have th2 : (X2.drew.setCells g2 (N * 6) (Ev.cl ⟨bth, bkd, bad, bwd, bown, ber⟩)).there g2 ((N + 1) * 6) 6 := World.there_setCells (there_of (w := X2.drew) hb2 (by omega)) _ _ _
              have K3 := (kX.trans kA).young ((Keeps.refl (fun q => q = g2) X2).drew.trans (KS1.trans KS2)) (fun q hq => by have := kX.size; omega)
              have HM : Hid (OwnR Ev.cl 6 44 _ X.heap.size _ _) := O3
              clear O1 O2 O3 KS1 KS2 BA BB o1 kA
              generalize hX3 : (X2.drew.setCells g2 (N * 6) (Ev.cl ⟨bth, bkd, bad, bwd, bown, ber⟩)).setCells g2 ((N + 1) * 6) (Ev.cl ⟨ath, akd, aad, awd, aown, aer⟩) = X3 at *
              have HX3 : Hid (_ = X3) := hX3
              clear hX3
              refine wp_held_end (S := fun W => W.heap[w1.heap.size + 1]? = some (.cells #[.int .i64 ath, .int .i64 akd, .int .u64 aad, .int .u64 awd, .bool aown, .int .i64 aer] 44 (0, 0)) ∧ W.heap[w1.heap.size]? = some (.cells #[.int .i64 bth, .int .i64 bkd, .int .u64 bad, .int .u64 bwd, .bool bown, .int .i64 ber] 44 (0, 0))) 11 rfl hmx ?_
              simp only [Array.replicate_succ, Array.replicate_zero, List.push_toArray, List.nil_append, List.cons_append]
              refine held_take (i := 0) (v := .slice (some ⟨g2, 0, none⟩) L.length cap2) 55 rfl rfl (by kernel_rfl) (by kernel_rfl) (by kernel_rfl) rfl (fun w' hw' => by go_simp) hS1 ?_
              simp only [Act.put, List.setIfInBounds_toArray, List.set_cons_zero, List.set_cons_succ]
              refine held_take (i := 1) (v := .int .i64 (N : Int)) 56 rfl rfl (by kernel_rfl) (by kernel_rfl) (by kernel_rfl) rfl (fun w' hw' => by go_simp) hS1 ?_
              simp only [Act.put, List.setIfInBounds_toArray, List.set_cons_zero, List.set_cons_succ]
              refine held_take (i := 2) (v := .slice (some ⟨g2, 0, none⟩) L.length cap2) 57 rfl rfl (by kernel_rfl) (by kernel_rfl) (by kernel_rfl) rfl (fun w' hw' => by go_simp) hS1 ?_
              simp only [Act.put, List.setIfInBounds_toArray, List.set_cons_zero, List.set_cons_succ]
              refine held_take (i := 3) (v := .int .i64 (N : Int)) 58 rfl rfl (by kernel_rfl) (by kernel_rfl) (by kernel_rfl) rfl (fun w' hw' => by go_simp) hS1 ?_
              simp only [Act.put, List.setIfInBounds_toArray, List.set_cons_zero, List.set_cons_succ]
              refine held_take (i := 4) (v := .int .i64 ((N : Int) + 1)) 59 rfl rfl (by kernel_rfl) (by kernel_rfl) (by kernel_rfl) rfl (fun w' hw' => by go_simp) hS1 ?_
              simp only [Act.put, List.setIfInBounds_toArray, List.set_cons_zero, List.set_cons_succ]
              refine held_take (i := 5) (v := .agg #[.int .i64 bth, .int .i64 bkd, .int .u64 bad, .int .u64 bwd, .bool bown, .int .i64 ber]) 60 rfl rfl (by kernel_rfl) (by kernel_rfl) (by kernel_rfl) rfl (fun w' hw' => by obtain ⟨q0, q1, q2, q3, q4, q5⟩ := blk6 hw'.2; go_simp) hS1 ?_
              simp only [Act.put, List.setIfInBounds_toArray, List.set_cons_zero, List.set_cons_succ]
              refine held_take (i := 6) (v := .agg #[.int .i64 ath, .int .i64 akd, .int .u64 aad, .int .u64 awd, .bool aown, .int .i64 aer]) 61 rfl rfl (by kernel_rfl) (by kernel_rfl) (by kernel_rfl) rfl (fun w' hw' => by obtain ⟨q0, q1, q2, q3, q4, q5⟩ := blk6 hw'.1; go_simp) hS1 ?_
              simp only [Act.put, List.setIfInBounds_toArray, List.set_cons_zero, List.set_cons_succ]
              refine held_take (i := 7) (v := .pointer (some ⟨g2, N * 6, none⟩)) 62 rfl rfl (by kernel_rfl) (by kernel_rfl) (by kernel_rfl) rfl (fun w' hw' => by go_simp) hS1 ?_
              simp only [Act.put, List.setIfInBounds_toArray, List.set_cons_zero, List.set_cons_succ]
              refine held_none (i := 8) (w' := X2.drew.setCells g2 (N * 6) (Ev.cl ⟨bth, bkd, bad, bwd, bown, ber⟩)) (by kernel_rfl) rfl rfl rfl (run_store_mid_op rfl g2 (N * 6) #[.int .i64 bth, .int .i64 bkd, .int .u64 bad, .int .u64 bwd, .bool bown, .int .i64 ber] rfl rfl th1 (by kernel_rfl) (by simp [Value.oneCell'])) hS2 ?_
              simp only [List.setIfInBounds_toArray, List.set_cons_zero, List.set_cons_succ]
              refine held_take (i := 9) (v := .pointer (some ⟨g2, (N + 1) * 6, none⟩)) 63 rfl rfl (by kernel_rfl) (by kernel_rfl) (by kernel_rfl) rfl (fun w' hw' => by go_simp) hS2 ?_
              simp only [Act.put, List.setIfInBounds_toArray, List.set_cons_zero, List.set_cons_succ]
              refine held_none (i := 10) (w' := X3) (by kernel_rfl) rfl rfl rfl (by rw [← HX3.out]; exact run_store_mid_op rfl g2 ((N + 1) * 6) #[.int .i64 ath, .int .i64 akd, .int .u64 aad, .int .u64 awd, .bool aown, .int .i64 aer] rfl rfl th2 (by kernel_rfl) (by simp [Value.oneCell'])) hS3 ?_
              refine held_end (by kernel_rfl) ?_ _
              have K4 := k1.trans K3
              have CH1 := check_any _ L X3 (HE.out _ K4) (HG.out _ K4).1 (HG.out _ K4).2
              have M := HM.out
              have wf2 : ∀ e ∈ (L.set N ⟨bth, bkd, bad, bwd, bown, ber⟩).set (N + 1) ⟨ath, akd, aad, awd, aown, aer⟩, e.wf := fun e he => by
                rcases List.mem_or_eq_of_mem_set he with he | rfl
                · rcases List.mem_or_eq_of_mem_set he with he | rfl
                  · exact hwf0.out e he
                  · rw [← HB.out]; exact hwf0.out _ (List.getElem_mem _)
                · rw [← HA.out]; exact hwf0.out _ (List.getElem_mem _)
              have CH2 : ∀ W, Keeps (fun _ => False) X3 W → Calls Tryd.prog 16 #[.slice (some ⟨g2, 0, none⟩) L.length cap2] W fun ex w' => ex = .returned (.agg (odV (checkL ((L.set N ⟨bth, bkd, bad, bwd, bown, ber⟩).set (N + 1) ⟨ath, akd, aad, awd, aown, aer⟩)).1 (checkL ((L.set N ⟨bth, bkd, bad, bwd, bown, ber⟩).set (N + 1) ⟨ath, akd, aad, awd, aown, aer⟩)).2)) ∧ Keeps (fun _ => False) W w' := fun W k =>
                check_any _ _ W ⟨(M.els ev_len).keeps ev_ne k, wf2, by simpa using hbg0.out⟩ (HG.out _ (K4.trans k)).1 (HG.out _ (K4.trans k)).2
              have NN := num_any
              have sw := SW.out hca hcb hth
              generalize (L.set N ⟨bth, bkd, bad, bwd, bown, ber⟩).set (N + 1) ⟨ath, akd, aad, awd, aown, aer⟩ = L2 at *
              generalize checkL L = z at *
              generalize checkL L2 = z2 at *
              obtain ⟨za, ze⟩ := z
              obtain ⟨ya, ye⟩ := z2
              unfold odV at CH1 CH2
              dsimp only at CH1 CH2 sw
              clear M HM wf2 th1 th2 hS1 hS2 hS3 HX3 hb2 hcur l1 l2 ne1 ne2 b1 b2 HA HB SW CK hca hcb hdt hth KN
              by_cases hz : ze = 0
              · obtain rfl := sw.1 hz
                subst hz
                clear sw
                go_wp2_with fail
                refine CH1.mono ?_
                rintro ex X4 ⟨rfl, k4⟩
                go_wp2_with (go_at_call 29; refine (NN _ _).mono ?_; rintro ex w' ⟨rfl, rfl⟩)
                refine (CH2 _ k4).mono ?_
                rintro ex X5 ⟨rfl, k5⟩
                go_wp2_with (go_at_call 29; refine (NN _ _).mono ?_; rintro ex w' ⟨rfl, rfl⟩)
                go_ret
                exact ⟨by first | rfl | simp, (K4.trans k4).trans k5⟩
              · have hy : ye ≠ 0 := fun h => hz (sw.2 h)
                have q1 : (ze == 0) = false := by simpa using hz
                have q2 : (ye == 0) = false := by simpa using hy
                clear sw
                go_wp2_with fail
                refine CH1.mono ?_
                rintro ex X4 ⟨rfl, k4⟩
                go_wp2_with (go_at_call 29; refine (NN _ _).mono ?_; rintro ex w' ⟨rfl, rfl⟩)
                refine (CH2 _ k4).mono ?_
                rintro ex X5 ⟨rfl, k5⟩
                go_wp2_with (go_at_call 29; refine (NN _ _).mono ?_; rintro ex w' ⟨rfl, rfl⟩)
                go_ret
                exact ⟨by first | rfl | simp [q1, q2, hz, hy], (K4.trans k4).trans k5⟩
    · obtain ⟨N, rfl⟩ := Int.eq_ofNat_of_zero_le ‹0 ≤ r›
      have hN1 : N + 1 < L.length := by omega
      have hN0 : N < L.length := by omega
      have hE1 := HE.out _ k1
      obtain ⟨g, off, rfl, x0, x1, x2, x3, x4, x5⟩ := hE1.at N hN0
      obtain ⟨g', off', hgo, y0, y1, y2, y3, y4, y5⟩ := hE1.at (N + 1) hN1
      simp only [Option.some.injEq, Addr.mk.injEq, and_true] at hgo
      obtain ⟨rfl, rfl⟩ := hgo
      have SW : Hid (clockB (L[N]'hN0).kd = false → clockB (L[N + 1]'hN1).kd = false → (L[N]'hN0).th ≠ (L[N + 1]'hN1).th → ((checkL L).2 = 0 ↔ (checkL ((L.set N (L[N + 1]'hN1)).set (N + 1) (L[N]'hN0))).2 = 0)) := swap_all hN1
      generalize hA : (L[N]'hN0) = A at *
      generalize hB : (L[N + 1]'hN1) = B at *
      obtain ⟨ath, akd, aad, awd, aown, aer⟩ := A
      obtain ⟨bth, bkd, bad, bwd, bown, ber⟩ := B
      dsimp only at x0 x1 x2 x3 x4 x5 y0 y1 y2 y3 y4 y5
      have HA : Hid ((L[N]'hN0) = _) := hA
      have HB : Hid ((L[N + 1]'hN1) = _) := hB
      clear hA hB
      have n0 : (0 : Int) ≤ N := by omega
      have n1 : (N : Int) < L.length := by omega
      have n2 : (0 : Int) ≤ (N : Int) + 1 := by omega
      have n3 : (N : Int) + 1 < L.length := by omega
      have wr1 : IntKind.i64.wrap ((N : Int) + 1) = (N : Int) + 1 := by simp [IntKind.wrap, IntKind.signed, IntKind.bits]; omega
      have tn1 : ((N : Int) + 1).toNat = N + 1 := by omega
      clear hr0 hr1 hr hd hl hE1
      have hS0 : w1.cell? ⟨g, off + N * 6, none⟩ = some (.int .i64 ath) ∧ w1.cell? ⟨g, off + N * 6 + 1, none⟩ = some (.int .i64 akd) ∧ w1.cell? ⟨g, off + N * 6 + 2, none⟩ = some (.int .u64 aad) ∧ w1.cell? ⟨g, off + N * 6 + 3, none⟩ = some (.int .u64 awd) ∧ w1.cell? ⟨g, off + N * 6 + 4, none⟩ = some (.bool aown) ∧ w1.cell? ⟨g, off + N * 6 + 5, none⟩ = some (.int .i64 aer) ∧
          w1.cell? ⟨g, off + (N + 1) * 6, none⟩ = some (.int .i64 bth) ∧ w1.cell? ⟨g, off + (N + 1) * 6 + 1, none⟩ = some (.int .i64 bkd) ∧ w1.cell? ⟨g, off + (N + 1) * 6 + 2, none⟩ = some (.int .u64 bad) ∧ w1.cell? ⟨g, off + (N + 1) * 6 + 3, none⟩ = some (.int .u64 bwd) ∧ w1.cell? ⟨g, off + (N + 1) * 6 + 4, none⟩ = some (.bool bown) ∧ w1.cell? ⟨g, off + (N + 1) * 6 + 5, none⟩ = some (.int .i64 ber) := ⟨x0, x1, x2, x3, x4, x5, y0, y1, y2, y3, y4, y5⟩
      have e0 := World.new_ne w1 _ x0
      have e1 := World.new_ne w1 _ y0
      go_region_held3 (fun W : World => W.cell? ⟨g, off + N * 6, none⟩ = some (.int .i64 ath) ∧ W.cell? ⟨g, off + N * 6 + 1, none⟩ = some (.int .i64 akd) ∧ W.cell? ⟨g, off + N * 6 + 2, none⟩ = some (.int .u64 aad) ∧ W.cell? ⟨g, off + N * 6 + 3, none⟩ = some (.int .u64 awd) ∧ W.cell? ⟨g, off + N * 6 + 4, none⟩ = some (.bool aown) ∧ W.cell? ⟨g, off + N * 6 + 5, none⟩ = some (.int .i64 aer) ∧
          W.cell? ⟨g, off + (N + 1) * 6, none⟩ = some (.int .i64 bth) ∧ W.cell? ⟨g, off + (N + 1) * 6 + 1, none⟩ = some (.int .i64 bkd) ∧ W.cell? ⟨g, off + (N + 1) * 6 + 2, none⟩ = some (.int .u64 bad) ∧ W.cell? ⟨g, off + (N + 1) * 6 + 3, none⟩ = some (.int .u64 bwd) ∧ W.cell? ⟨g, off + (N + 1) * 6 + 4, none⟩ = some (.bool bown) ∧ W.cell? ⟨g, off + (N + 1) * 6 + 5, none⟩ = some (.int .i64 ber)) (first | assumption | (exact hS0) | go_keep) (fail)
      all_goals clear hS0 x0 x1 x2 x3 x4 x5 y0 y1 y2 y3 y4 y5 e0 e1
      · have kX : Keeps (fun _ => False) w1 (((w1.alloc (.cells #[.int .i64 ath, .int .i64 akd, .int .u64 aad, .int .u64 awd, .bool aown, .int .i64 aer] 44)).alloc (.cells #[.int .i64 bth, .int .i64 bkd, .int .u64 bad, .int .u64 bwd, .bool bown, .int .i64 ber] 44)).drew) := (((Keeps.refl (fun _ => False) w1).alloc _).alloc _).drew
        have b1 : (((w1.alloc (.cells #[.int .i64 ath, .int .i64 akd, .int .u64 aad, .int .u64 awd, .bool aown, .int .i64 aer] 44)).alloc (.cells #[.int .i64 bth, .int .i64 bkd, .int .u64 bad, .int .u64 bwd, .bool bown, .int .i64 ber] 44)).drew).heap[w1.heap.size]? = some (.cells #[.int .i64 ath, .int .i64 akd, .int .u64 aad, .int .u64 awd, .bool aown, .int .i64 aer] 44 (0, 0)) := (((Keeps.refl (fun _ => False) _).alloc _).block _ (lt_of_block (MapKept.heap_alloc w1 (.cells #[.int .i64 ath, .int .i64 akd, .int .u64 aad, .int .u64 awd, .bool aown, .int .i64 aer] 44)).1) (fun f => f)).trans (MapKept.heap_alloc w1 (.cells #[.int .i64 ath, .int .i64 akd, .int .u64 aad, .int .u64 awd, .bool aown, .int .i64 aer] 44)).1
        have b2 : (((w1.alloc (.cells #[.int .i64 ath, .int .i64 akd, .int .u64 aad, .int .u64 awd, .bool aown, .int .i64 aer] 44)).alloc (.cells #[.int .i64 bth, .int .i64 bkd, .int .u64 bad, .int .u64 bwd, .bool bown, .int .i64 ber] 44)).drew).heap[w1.heap.size + 1]? = some (.cells #[.int .i64 bth, .int .i64 bkd, .int .u64 bad, .int .u64 bwd, .bool bown, .int .i64 ber] 44 (0, 0)) := by have := (MapKept.heap_alloc (w1.alloc (.cells #[.int .i64 ath, .int .i64 akd, .int .u64 aad, .int .u64 awd, .bool aown, .int .i64 aer] 44)) (.cells #[.int .i64 bth, .int .i64 bkd, .int .u64 bad, .int .u64 bwd, .bool bown, .int .i64 ber] 44)).1; rw [show (w1.alloc _).heap.size = w1.heap.size + 1 by simp] at this; exact this
        generalize ((w1.alloc (.cells #[.int .i64 ath, .int .i64 akd, .int .u64 aad, .int .u64 awd, .bool aown, .int .i64 aer] 44)).alloc (.cells #[.int .i64 bth, .int .i64 bkd, .int .u64 bad, .int .u64 bwd, .bool bown, .int .i64 ber] 44)).drew = X at *
        have hpq : w1.heap.size ≠ w1.heap.size + 1 := by omega
        have c0 : X.cell? ⟨w1.heap.size, 0, none⟩ = some (.int .i64 ath) := by rw [cell_of_block b1]; rfl
        have c1 : X.cell? ⟨w1.heap.size, 1, none⟩ = some (.int .i64 akd) := by rw [cell_of_block b1]; rfl
        have c2 : X.cell? ⟨w1.heap.size, 2, none⟩ = some (.int .u64 aad) := by rw [cell_of_block b1]; rfl
        have c3 : X.cell? ⟨w1.heap.size, 3, none⟩ = some (.int .u64 awd) := by rw [cell_of_block b1]; rfl
        have c4 : X.cell? ⟨w1.heap.size, 4, none⟩ = some (.bool aown) := by rw [cell_of_block b1]; rfl
        have c5 : X.cell? ⟨w1.heap.size, 5, none⟩ = some (.int .i64 aer) := by rw [cell_of_block b1]; rfl
        have d0 : X.cell? ⟨w1.heap.size + 1, 0, none⟩ = some (.int .i64 bth) := by rw [cell_of_block b2]; rfl
        have d1 : X.cell? ⟨w1.heap.size + 1, 1, none⟩ = some (.int .i64 bkd) := by rw [cell_of_block b2]; rfl
        have d2 : X.cell? ⟨w1.heap.size + 1, 2, none⟩ = some (.int .u64 bad) := by rw [cell_of_block b2]; rfl
        have d3 : X.cell? ⟨w1.heap.size + 1, 3, none⟩ = some (.int .u64 bwd) := by rw [cell_of_block b2]; rfl
        have d4 : X.cell? ⟨w1.heap.size + 1, 4, none⟩ = some (.bool bown) := by rw [cell_of_block b2]; rfl
        have d5 : X.cell? ⟨w1.heap.size + 1, 5, none⟩ = some (.int .i64 ber) := by rw [cell_of_block b2]; rfl
        have CK : ∀ k W, Calls Tryd.prog 33 #[.int .i64 k] W fun e w' => e = .returned (.bool (clockB k)) ∧ W = w' := fun k W => (clock_any k W).mono (fun e w' h => ⟨h.1, h.2.symm⟩)
        by_cases hth : ath = bth
        · subst hth
          go_wp2_with fail
          go_ret
          exact ⟨rfl, k1.trans kX⟩
        · have hdt : decide (ath = bth) = false := decide_eq_false hth
          cases hca : clockB akd with
          | true =>
            go_wp2_with (go_at_call 33; refine (CK _ _).mono ?_; rintro ex w' ⟨rfl, rfl⟩; rw [hca])
            go_ret
            exact ⟨rfl, k1.trans kX⟩
          | false =>
            cases hcb : clockB bkd with
            | true =>
              go_wp2_with (go_at_call 33; refine (CK _ _).mono ?_; rintro ex w' ⟨rfl, rfl⟩; first | rw [hca] | rw [hcb])
              go_ret
              exact ⟨rfl, k1.trans kX⟩
            | false =>
              have hEX := HE.out _ (k1.trans kX)
              obtain ⟨v', X2, r1, o1, gr⟩ := (OwnR.nil Ev.cl 6 44 X).app ev_len ev_one (by decide) Tryd.underlying22 info_ev rfl (by decide) (ty := 22) _ L hEX.els (by have := hEX.big; simp; omega)
              have kA := OwnR.kept gr (Keeps.refl _ X) (OwnR.nil Ev.cl 6 44 X)
              simp only [List.nil_append] at o1
              obtain ⟨g2, cap2, cur, rfl, hg2, hb2, hcur⟩ := o1.at (by omega)
              have HR1 : Hid _ := r1
              clear hEX gr r1
              go_wp2_with (first | (at_builtin; refine wpList_append_run rfl _ _ 22 rfl rfl rfl HR1.out ?_; clear HR1) | (go_at_call 33; refine (CK _ _).mono ?_; rintro ex w' ⟨rfl, rfl⟩; first | rw [hca] | rw [hcb]))
              have BA := (kA.block _ (lt_of_block b1) (fun f => f)).trans b1
              have BB := (kA.block _ (lt_of_block b2) (fun f => f)).trans b2
              have l1 := lt_of_block b1
              have l2 := lt_of_block b2
              have ne1 : ¬ w1.heap.size = g2 := by omega
              have ne2 : ¬ w1.heap.size + 1 = g2 := by omega
              clear c0 c1 c2 c3 c4 c5 d0 d1 d2 d3 d4 d5
              have hS1 : X2.drew.heap[w1.heap.size]? = some (.cells #[.int .i64 ath, .int .i64 akd, .int .u64 aad, .int .u64 awd, .bool aown, .int .i64 aer] 44 (0, 0)) ∧ X2.drew.heap[w1.heap.size + 1]? = some (.cells #[.int .i64 bth, .int .i64 bkd, .int .u64 bad, .int .u64 bwd, .bool bown, .int .i64 ber] 44 (0, 0)) := ⟨BA, BB⟩
              have KS1 := cells_keeps (g := g2) (Ev.cl ⟨bth, bkd, bad, bwd, bown, ber⟩) (N * 6) X2.drew
              have hS2 : (X2.drew.setCells g2 (N * 6) (Ev.cl ⟨bth, bkd, bad, bwd, bown, ber⟩)).heap[w1.heap.size]? = some (.cells #[.int .i64 ath, .int .i64 akd, .int .u64 aad, .int .u64 awd, .bool aown, .int .i64 aer] 44 (0, 0)) ∧ (X2.drew.setCells g2 (N * 6) (Ev.cl ⟨bth, bkd, bad, bwd, bown, ber⟩)).heap[w1.heap.size + 1]? = some (.cells #[.int .i64 bth, .int .i64 bkd, .int .u64 bad, .int .u64 bwd, .bool bown, .int .i64 ber] 44 (0, 0)) := ⟨(KS1.block _ (lt_of_block BA) ne1).trans BA, (KS1.block _ (lt_of_block BB) ne2).trans BB⟩
              have KS2 := cells_keeps (g := g2) (Ev.cl ⟨ath, akd, aad, awd, aown, aer⟩) ((N + 1) * 6) (X2.drew.setCells g2 (N * 6) (Ev.cl ⟨bth, bkd, bad, bwd, bown, ber⟩))
              have hS3 : ((X2.drew.setCells g2 (N * 6) (Ev.cl ⟨bth, bkd, bad, bwd, bown, ber⟩)).setCells g2 ((N + 1) * 6) (Ev.cl ⟨ath, akd, aad, awd, aown, aer⟩)).heap[w1.heap.size]? = some (.cells #[.int .i64 ath, .int .i64 akd, .int .u64 aad, .int .u64 awd, .bool aown, .int .i64 aer] 44 (0, 0)) ∧ ((X2.drew.setCells g2 (N * 6) (Ev.cl ⟨bth, bkd, bad, bwd, bown, ber⟩)).setCells g2 ((N + 1) * 6) (Ev.cl ⟨ath, akd, aad, awd, aown, aer⟩)).heap[w1.heap.size + 1]? = some (.cells #[.int .i64 bth, .int .i64 bkd, .int .u64 bad, .int .u64 bwd, .bool bown, .int .i64 ber] 44 (0, 0)) := ⟨(KS2.block _ (lt_of_block hS2.1) ne1).trans hS2.1, (KS2.block _ (lt_of_block hS2.2) ne2).trans hS2.2⟩
              have O1 : OwnR Ev.cl 6 44 X2.drew X.heap.size (.slice (some ⟨g2, 0, none⟩) L.length cap2) L := o1.keeps (Keeps.refl (fun _ => False) X2).drew (fun _ _ f => f)
              have O2 := O1.setEv N ⟨bth, bkd, bad, bwd, bown, ber⟩ (by omega)
              have O3 := O2.setEv (N + 1) ⟨ath, akd, aad, awd, aown, aer⟩ (by simpa using hN1)
              have th1 : X2.drew.there g2 (N * 6) 6 := there_of hb2 (by omega)
              have th2 : (X2.drew.setCells g2 (N * 6) (Ev.cl ⟨bth, bkd, bad, bwd, bown, ber⟩)).there g2 ((N + 1) * 6) 6 := World.there_setCells (there_of (w := X2.drew) hb2 (by omega)) _ _ _
              have K3 := (kX.trans kA).young ((Keeps.refl (fun q => q = g2) X2).drew.trans (KS1.trans KS2)) (fun q hq => by have := kX.size; omega)
              have HM : Hid (OwnR Ev.cl 6 44 _ X.heap.size _ _) := O3
              clear O1 O2 O3 KS1 KS2 BA BB o1 kA
              generalize hX3 : (X2.drew.setCells g2 (N * 6) (Ev.cl ⟨bth, bkd, bad, bwd, bown, ber⟩)).setCells g2 ((N + 1) * 6) (Ev.cl ⟨ath, akd, aad, awd, aown, aer⟩) = X3 at *
              have HX3 : Hid (_ = X3) := hX3
              clear hX3
              refine wp_held_end (S := fun W => W.heap[w1.heap.size]? = some (.cells #[.int .i64 ath, .int .i64 akd, .int .u64 aad, .int .u64 awd, .bool aown, .int .i64 aer] 44 (0, 0)) ∧ W.heap[w1.heap.size + 1]? = some (.cells #[.int .i64 bth, .int .i64 bkd, .int .u64 bad, .int .u64 bwd, .bool bown, .int .i64 ber] 44 (0, 0))) 11 rfl hmx ?_
              simp only [Array.replicate_succ, Array.replicate_zero, List.push_toArray, List.nil_append, List.cons_append]
              refine held_take (i := 0) (v := .slice (some ⟨g2, 0, none⟩) L.length cap2) 55 rfl rfl (by kernel_rfl) (by kernel_rfl) (by kernel_rfl) rfl (fun w' hw' => by go_simp) hS1 ?_
              simp only [Act.put, List.setIfInBounds_toArray, List.set_cons_zero, List.set_cons_succ]
              refine held_take (i := 1) (v := .int .i64 (N : Int)) 56 rfl rfl (by kernel_rfl) (by kernel_rfl) (by kernel_rfl) rfl (fun w' hw' => by go_simp) hS1 ?_
              simp only [Act.put, List.setIfInBounds_toArray, List.set_cons_zero, List.set_cons_succ]
              refine held_take (i := 2) (v := .slice (some ⟨g2, 0, none⟩) L.length cap2) 57 rfl rfl (by kernel_rfl) (by kernel_rfl) (by kernel_rfl) rfl (fun w' hw' => by go_simp) hS1 ?_
              simp only [Act.put, List.setIfInBounds_toArray, List.set_cons_zero, List.set_cons_succ]
              refine held_take (i := 3) (v := .int .i64 (N : Int)) 58 rfl rfl (by kernel_rfl) (by kernel_rfl) (by kernel_rfl) rfl (fun w' hw' => by go_simp) hS1 ?_
              simp only [Act.put, List.setIfInBounds_toArray, List.set_cons_zero, List.set_cons_succ]
              refine held_take (i := 4) (v := .int .i64 ((N : Int) + 1)) 59 rfl rfl (by kernel_rfl) (by kernel_rfl) (by kernel_rfl) rfl (fun w' hw' => by go_simp) hS1 ?_
              simp only [Act.put, List.setIfInBounds_toArray, List.set_cons_zero, List.set_cons_succ]
              refine held_take (i := 5) (v := .agg #[.int .i64 bth, .int .i64 bkd, .int .u64 bad, .int .u64 bwd, .bool bown, .int .i64 ber]) 60 rfl rfl (by kernel_rfl) (by kernel_rfl) (by kernel_rfl) rfl (fun w' hw' => by obtain ⟨q0, q1, q2, q3, q4, q5⟩ := blk6 hw'.2; go_simp) hS1 ?_
              simp only [Act.put, List.setIfInBounds_toArray, List.set_cons_zero, List.set_cons_succ]
              refine held_take (i := 6) (v := .agg #[.int .i64 ath, .int .i64 akd, .int .u64 aad, .int .u64 awd, .bool aown, .int .i64 aer]) 61 rfl rfl (by kernel_rfl) (by kernel_rfl) (by kernel_rfl) rfl (fun w' hw' => by obtain ⟨q0, q1, q2, q3, q4, q5⟩ := blk6 hw'.1; go_simp) hS1 ?_
              simp only [Act.put, List.setIfInBounds_toArray, List.set_cons_zero, List.set_cons_succ]
              refine held_take (i := 7) (v := .pointer (some ⟨g2, N * 6, none⟩)) 62 rfl rfl (by kernel_rfl) (by kernel_rfl) (by kernel_rfl) rfl (fun w' hw' => by go_simp) hS1 ?_
              simp only [Act.put, List.setIfInBounds_toArray, List.set_cons_zero, List.set_cons_succ]
              refine held_none (i := 8) (w' := X2.drew.setCells g2 (N * 6) (Ev.cl ⟨bth, bkd, bad, bwd, bown, ber⟩)) (by kernel_rfl) rfl rfl rfl (run_store_mid_op rfl g2 (N * 6) #[.int .i64 bth, .int .i64 bkd, .int .u64 bad, .int .u64 bwd, .bool bown, .int .i64 ber] rfl rfl th1 (by kernel_rfl) (by simp [Value.oneCell'])) hS2 ?_
              simp only [List.setIfInBounds_toArray, List.set_cons_zero, List.set_cons_succ]
              refine held_take (i := 9) (v := .pointer (some ⟨g2, (N + 1) * 6, none⟩)) 63 rfl rfl (by kernel_rfl) (by kernel_rfl) (by kernel_rfl) rfl (fun w' hw' => by go_simp) hS2 ?_
              simp only [Act.put, List.setIfInBounds_toArray, List.set_cons_zero, List.set_cons_succ]
              refine held_none (i := 10) (w' := X3) (by kernel_rfl) rfl rfl rfl (by rw [← HX3.out]; exact run_store_mid_op rfl g2 ((N + 1) * 6) #[.int .i64 ath, .int .i64 akd, .int .u64 aad, .int .u64 awd, .bool aown, .int .i64 aer] rfl rfl th2 (by kernel_rfl) (by simp [Value.oneCell'])) hS3 ?_
              refine held_end (by kernel_rfl) ?_ _
              have K4 := k1.trans K3
              have CH1 := check_any _ L X3 (HE.out _ K4) (HG.out _ K4).1 (HG.out _ K4).2
              have M := HM.out
              have wf2 : ∀ e ∈ (L.set N ⟨bth, bkd, bad, bwd, bown, ber⟩).set (N + 1) ⟨ath, akd, aad, awd, aown, aer⟩, e.wf := fun e he => by
                rcases List.mem_or_eq_of_mem_set he with he | rfl
                · rcases List.mem_or_eq_of_mem_set he with he | rfl
                  · exact hwf0.out e he
                  · rw [← HB.out]; exact hwf0.out _ (List.getElem_mem _)
                · rw [← HA.out]; exact hwf0.out _ (List.getElem_mem _)
              have CH2 : ∀ W, Keeps (fun _ => False) X3 W → Calls Tryd.prog 16 #[.slice (some ⟨g2, 0, none⟩) L.length cap2] W fun ex w' => ex = .returned (.agg (odV (checkL ((L.set N ⟨bth, bkd, bad, bwd, bown, ber⟩).set (N + 1) ⟨ath, akd, aad, awd, aown, aer⟩)).1 (checkL ((L.set N ⟨bth, bkd, bad, bwd, bown, ber⟩).set (N + 1) ⟨ath, akd, aad, awd, aown, aer⟩)).2)) ∧ Keeps (fun _ => False) W w' := fun W k =>
                check_any _ _ W ⟨(M.els ev_len).keeps ev_ne k, wf2, by simpa using hbg0.out⟩ (HG.out _ (K4.trans k)).1 (HG.out _ (K4.trans k)).2
              have NN := num_any
              have sw := SW.out hca hcb hth
              generalize (L.set N ⟨bth, bkd, bad, bwd, bown, ber⟩).set (N + 1) ⟨ath, akd, aad, awd, aown, aer⟩ = L2 at *
              generalize checkL L = z at *
              generalize checkL L2 = z2 at *
              obtain ⟨za, ze⟩ := z
              obtain ⟨ya, ye⟩ := z2
              unfold odV at CH1 CH2
              dsimp only at CH1 CH2 sw
              clear M HM wf2 th1 th2 hS1 hS2 hS3 HX3 hb2 hcur l1 l2 ne1 ne2 b1 b2 HA HB SW CK hca hcb hdt hth KN
              by_cases hz : ze = 0
              · obtain rfl := sw.1 hz
                subst hz
                clear sw
                go_wp2_with fail
                refine CH1.mono ?_
                rintro ex X4 ⟨rfl, k4⟩
                go_wp2_with (go_at_call 29; refine (NN _ _).mono ?_; rintro ex w' ⟨rfl, rfl⟩)
                refine (CH2 _ k4).mono ?_
                rintro ex X5 ⟨rfl, k5⟩
                go_wp2_with (go_at_call 29; refine (NN _ _).mono ?_; rintro ex w' ⟨rfl, rfl⟩)
                go_ret
                exact ⟨by first | rfl | simp, (K4.trans k4).trans k5⟩
              · have hy : ye ≠ 0 := fun h => hz (sw.2 h)
                have q1 : (ze == 0) = false := by simpa using hz
                have q2 : (ye == 0) = false := by simpa using hy
                clear sw
                go_wp2_with fail
                refine CH1.mono ?_
                rintro ex X4 ⟨rfl, k4⟩
                go_wp2_with (go_at_call 29; refine (NN _ _).mono ?_; rintro ex w' ⟨rfl, rfl⟩)
                refine (CH2 _ k4).mono ?_
                rintro ex X5 ⟨rfl, k5⟩
                go_wp2_with (go_at_call 29; refine (NN _ _).mono ?_; rintro ex w' ⟨rfl, rfl⟩)
                go_ret
                exact ⟨by first | rfl | simp [q1, q2, hz, hy], (K4.trans k4).trans k5⟩
      · have kX : Keeps (fun _ => False) w1 (((w1.alloc (.cells #[.int .i64 bth, .int .i64 bkd, .int .u64 bad, .int .u64 bwd, .bool bown, .int .i64 ber] 44)).alloc (.cells #[.int .i64 ath, .int .i64 akd, .int .u64 aad, .int .u64 awd, .bool aown, .int .i64 aer] 44)).drew) := (((Keeps.refl (fun _ => False) w1).alloc _).alloc _).drew
        have b1 : (((w1.alloc (.cells #[.int .i64 bth, .int .i64 bkd, .int .u64 bad, .int .u64 bwd, .bool bown, .int .i64 ber] 44)).alloc (.cells #[.int .i64 ath, .int .i64 akd, .int .u64 aad, .int .u64 awd, .bool aown, .int .i64 aer] 44)).drew).heap[w1.heap.size]? = some (.cells #[.int .i64 bth, .int .i64 bkd, .int .u64 bad, .int .u64 bwd, .bool bown, .int .i64 ber] 44 (0, 0)) := (((Keeps.refl (fun _ => False) _).alloc _).block _ (lt_of_block (MapKept.heap_alloc w1 (.cells #[.int .i64 bth, .int .i64 bkd, .int .u64 bad, .int .u64 bwd, .bool bown, .int .i64 ber] 44)).1) (fun f => f)).trans (MapKept.heap_alloc w1 (.cells #[.int .i64 bth, .int .i64 bkd, .int .u64 bad, .int .u64 bwd, .bool bown, .int .i64 ber] 44)).1
        have b2 : (((w1.alloc (.cells #[.int .i64 bth, .int .i64 bkd, .int .u64 bad, .int .u64 bwd, .bool bown, .int .i64 ber] 44)).alloc (.cells #[.int .i64 ath, .int .i64 akd, .int .u64 aad, .int .u64 awd, .bool aown, .int .i64 aer] 44)).drew).heap[w1.heap.size + 1]? = some (.cells #[.int .i64 ath, .int .i64 akd, .int .u64 aad, .int .u64 awd, .bool aown, .int .i64 aer] 44 (0, 0)) := by have := (MapKept.heap_alloc (w1.alloc (.cells #[.int .i64 bth, .int .i64 bkd, .int .u64 bad, .int .u64 bwd, .bool bown, .int .i64 ber] 44)) (.cells #[.int .i64 ath, .int .i64 akd, .int .u64 aad, .int .u64 awd, .bool aown, .int .i64 aer] 44)).1; rw [show (w1.alloc _).heap.size = w1.heap.size + 1 by simp] at this; exact this
        generalize ((w1.alloc (.cells #[.int .i64 bth, .int .i64 bkd, .int .u64 bad, .int .u64 bwd, .bool bown, .int .i64 ber] 44)).alloc (.cells #[.int .i64 ath, .int .i64 akd, .int .u64 aad, .int .u64 awd, .bool aown, .int .i64 aer] 44)).drew = X at *
        have hpq : w1.heap.size + 1 ≠ w1.heap.size := by omega
        have c0 : X.cell? ⟨w1.heap.size + 1, 0, none⟩ = some (.int .i64 ath) := by rw [cell_of_block b2]; rfl
        have c1 : X.cell? ⟨w1.heap.size + 1, 1, none⟩ = some (.int .i64 akd) := by rw [cell_of_block b2]; rfl
        have c2 : X.cell? ⟨w1.heap.size + 1, 2, none⟩ = some (.int .u64 aad) := by rw [cell_of_block b2]; rfl
        have c3 : X.cell? ⟨w1.heap.size + 1, 3, none⟩ = some (.int .u64 awd) := by rw [cell_of_block b2]; rfl
        have c4 : X.cell? ⟨w1.heap.size + 1, 4, none⟩ = some (.bool aown) := by rw [cell_of_block b2]; rfl
        have c5 : X.cell? ⟨w1.heap.size + 1, 5, none⟩ = some (.int .i64 aer) := by rw [cell_of_block b2]; rfl
        have d0 : X.cell? ⟨w1.heap.size, 0, none⟩ = some (.int .i64 bth) := by rw [cell_of_block b1]; rfl
        have d1 : X.cell? ⟨w1.heap.size, 1, none⟩ = some (.int .i64 bkd) := by rw [cell_of_block b1]; rfl
        have d2 : X.cell? ⟨w1.heap.size, 2, none⟩ = some (.int .u64 bad) := by rw [cell_of_block b1]; rfl
        have d3 : X.cell? ⟨w1.heap.size, 3, none⟩ = some (.int .u64 bwd) := by rw [cell_of_block b1]; rfl
        have d4 : X.cell? ⟨w1.heap.size, 4, none⟩ = some (.bool bown) := by rw [cell_of_block b1]; rfl
        have d5 : X.cell? ⟨w1.heap.size, 5, none⟩ = some (.int .i64 ber) := by rw [cell_of_block b1]; rfl
        have CK : ∀ k W, Calls Tryd.prog 33 #[.int .i64 k] W fun e w' => e = .returned (.bool (clockB k)) ∧ W = w' := fun k W => (clock_any k W).mono (fun e w' h => ⟨h.1, h.2.symm⟩)
        by_cases hth : ath = bth
        · subst hth
          go_wp2_with fail
          go_ret
          exact ⟨rfl, k1.trans kX⟩
        · have hdt : decide (ath = bth) = false := decide_eq_false hth
          cases hca : clockB akd with
          | true =>
            go_wp2_with (go_at_call 33; refine (CK _ _).mono ?_; rintro ex w' ⟨rfl, rfl⟩; rw [hca])
            go_ret
            exact ⟨rfl, k1.trans kX⟩
          | false =>
            cases hcb : clockB bkd with
            | true =>
              go_wp2_with (go_at_call 33; refine (CK _ _).mono ?_; rintro ex w' ⟨rfl, rfl⟩; first | rw [hca] | rw [hcb])
              go_ret
              exact ⟨rfl, k1.trans kX⟩
            | false =>
              have hEX := HE.out _ (k1.trans kX)
              obtain ⟨v', X2, r1, o1, gr⟩ := (OwnR.nil Ev.cl 6 44 X).app ev_len ev_one (by decide) Tryd.underlying22 info_ev rfl (by decide) (ty := 22) _ L hEX.els (by have := hEX.big; simp; omega)
              have kA := OwnR.kept gr (Keeps.refl _ X) (OwnR.nil Ev.cl 6 44 X)
              simp only [List.nil_append] at o1
              obtain ⟨g2, cap2, cur, rfl, hg2, hb2, hcur⟩ := o1.at (by omega)
              have HR1 : Hid _ := r1
              clear hEX gr r1
              go_wp2_with (first | (at_builtin; refine wpList_append_run rfl _ _ 22 rfl rfl rfl HR1.out ?_; clear HR1) | (go_at_call 33; refine (CK _ _).mono ?_; rintro ex w' ⟨rfl, rfl⟩; first | rw [hca] | rw [hcb]))
              have BA := (kA.block _ (lt_of_block b2) (fun f => f)).trans b2
              have BB := (kA.block _ (lt_of_block b1) (fun f => f)).trans b1
              have l1 := lt_of_block b1
              have l2 := lt_of_block b2
              have ne1 : ¬ w1.heap.size + 1 = g2 := by omega
              have ne2 : ¬ w1.heap.size = g2 := by omega
              clear c0 c1 c2 c3 c4 c5 d0 d1 d2 d3 d4 d5
              have hS1 : X2.drew.heap[w1.heap.size + 1]? = some (.cells #[.int .i64 ath, .int .i64 akd, .int .u64 aad, .int .u64 awd, .bool aown, .int .i64 aer] 44 (0, 0)) ∧ X2.drew.heap[w1.heap.size]? = some (.cells #[.int .i64 bth, .int .i64 bkd, .int .u64 bad, .int .u64 bwd, .bool bown, .int .i64 ber] 44 (0, 0)) := ⟨BA, BB⟩
              have KS1 := cells_keeps (g := g2) (Ev.cl ⟨bth, bkd, bad, bwd, bown, ber⟩) (N * 6) X2.drew
              have hS2 : (X2.drew.setCells g2 (N * 6) (Ev.cl ⟨bth, bkd, bad, bwd, bown, ber⟩)).heap[w1.heap.size + 1]? = some (.cells #[.int .i64 ath, .int .i64 akd, .int .u64 aad, .int .u64 awd, .bool aown, .int .i64 aer] 44 (0, 0)) ∧ (X2.drew.setCells g2 (N * 6) (Ev.cl ⟨bth, bkd, bad, bwd, bown, ber⟩)).heap[w1.heap.size]? = some (.cells #[.int .i64 bth, .int .i64 bkd, .int .u64 bad, .int .u64 bwd, .bool bown, .int .i64 ber] 44 (0, 0)) := ⟨(KS1.block _ (lt_of_block BA) ne1).trans BA, (KS1.block _ (lt_of_block BB) ne2).trans BB⟩
              have KS2 := cells_keeps (g := g2) (Ev.cl ⟨ath, akd, aad, awd, aown, aer⟩) ((N + 1) * 6) (X2.drew.setCells g2 (N * 6) (Ev.cl ⟨bth, bkd, bad, bwd, bown, ber⟩))
              have hS3 : ((X2.drew.setCells g2 (N * 6) (Ev.cl ⟨bth, bkd, bad, bwd, bown, ber⟩)).setCells g2 ((N + 1) * 6) (Ev.cl ⟨ath, akd, aad, awd, aown, aer⟩)).heap[w1.heap.size + 1]? = some (.cells #[.int .i64 ath, .int .i64 akd, .int .u64 aad, .int .u64 awd, .bool aown, .int .i64 aer] 44 (0, 0)) ∧ ((X2.drew.setCells g2 (N * 6) (Ev.cl ⟨bth, bkd, bad, bwd, bown, ber⟩)).setCells g2 ((N + 1) * 6) (Ev.cl ⟨ath, akd, aad, awd, aown, aer⟩)).heap[w1.heap.size]? = some (.cells #[.int .i64 bth, .int .i64 bkd, .int .u64 bad, .int .u64 bwd, .bool bown, .int .i64 ber] 44 (0, 0)) := ⟨(KS2.block _ (lt_of_block hS2.1) ne1).trans hS2.1, (KS2.block _ (lt_of_block hS2.2) ne2).trans hS2.2⟩
              have O1 : OwnR Ev.cl 6 44 X2.drew X.heap.size (.slice (some ⟨g2, 0, none⟩) L.length cap2) L := o1.keeps (Keeps.refl (fun _ => False) X2).drew (fun _ _ f => f)
              have O2 := O1.setEv N ⟨bth, bkd, bad, bwd, bown, ber⟩ (by omega)
              have O3 := O2.setEv (N + 1) ⟨ath, akd, aad, awd, aown, aer⟩ (by simpa using hN1)
              have th1 : X2.drew.there g2 (N * 6) 6 := there_of hb2 (by omega)
              have th2 : (X2.drew.setCells g2 (N * 6) (Ev.cl ⟨bth, bkd, bad, bwd, bown, ber⟩)).there g2 ((N + 1) * 6) 6 := World.there_setCells (there_of (w := X2.drew) hb2 (by omega)) _ _ _
              have K3 := (kX.trans kA).young ((Keeps.refl (fun q => q = g2) X2).drew.trans (KS1.trans KS2)) (fun q hq => by have := kX.size; omega)
              have HM : Hid (OwnR Ev.cl 6 44 _ X.heap.size _ _) := O3
              clear O1 O2 O3 KS1 KS2 BA BB o1 kA
              generalize hX3 : (X2.drew.setCells g2 (N * 6) (Ev.cl ⟨bth, bkd, bad, bwd, bown, ber⟩)).setCells g2 ((N + 1) * 6) (Ev.cl ⟨ath, akd, aad, awd, aown, aer⟩) = X3 at *
              have HX3 : Hid (_ = X3) := hX3
              clear hX3
              refine wp_held_end (S := fun W => W.heap[w1.heap.size + 1]? = some (.cells #[.int .i64 ath, .int .i64 akd, .int .u64 aad, .int .u64 awd, .bool aown, .int .i64 aer] 44 (0, 0)) ∧ W.heap[w1.heap.size]? = some (.cells #[.int .i64 bth, .int .i64 bkd, .int .u64 bad, .int .u64 bwd, .bool bown, .int .i64 ber] 44 (0, 0))) 11 rfl hmx ?_
              simp only [Array.replicate_succ, Array.replicate_zero, List.push_toArray, List.nil_append, List.cons_append]
              refine held_take (i := 0) (v := .slice (some ⟨g2, 0, none⟩) L.length cap2) 55 rfl rfl (by kernel_rfl) (by kernel_rfl) (by kernel_rfl) rfl (fun w' hw' => by go_simp) hS1 ?_
              simp only [Act.put, List.setIfInBounds_toArray, List.set_cons_zero, List.set_cons_succ]
              refine held_take (i := 1) (v := .int .i64 (N : Int)) 56 rfl rfl (by kernel_rfl) (by kernel_rfl) (by kernel_rfl) rfl (fun w' hw' => by go_simp) hS1 ?_
              simp only [Act.put, List.setIfInBounds_toArray, List.set_cons_zero, List.set_cons_succ]
              refine held_take (i := 2) (v := .slice (some ⟨g2, 0, none⟩) L.length cap2) 57 rfl rfl (by kernel_rfl) (by kernel_rfl) (by kernel_rfl) rfl (fun w' hw' => by go_simp) hS1 ?_
              simp only [Act.put, List.setIfInBounds_toArray, List.set_cons_zero, List.set_cons_succ]
              refine held_take (i := 3) (v := .int .i64 (N : Int)) 58 rfl rfl (by kernel_rfl) (by kernel_rfl) (by kernel_rfl) rfl (fun w' hw' => by go_simp) hS1 ?_
              simp only [Act.put, List.setIfInBounds_toArray, List.set_cons_zero, List.set_cons_succ]
              refine held_take (i := 4) (v := .int .i64 ((N : Int) + 1)) 59 rfl rfl (by kernel_rfl) (by kernel_rfl) (by kernel_rfl) rfl (fun w' hw' => by go_simp) hS1 ?_
              simp only [Act.put, List.setIfInBounds_toArray, List.set_cons_zero, List.set_cons_succ]
              refine held_take (i := 5) (v := .agg #[.int .i64 bth, .int .i64 bkd, .int .u64 bad, .int .u64 bwd, .bool bown, .int .i64 ber]) 60 rfl rfl (by kernel_rfl) (by kernel_rfl) (by kernel_rfl) rfl (fun w' hw' => by obtain ⟨q0, q1, q2, q3, q4, q5⟩ := blk6 hw'.2; go_simp) hS1 ?_
              simp only [Act.put, List.setIfInBounds_toArray, List.set_cons_zero, List.set_cons_succ]
              refine held_take (i := 6) (v := .agg #[.int .i64 ath, .int .i64 akd, .int .u64 aad, .int .u64 awd, .bool aown, .int .i64 aer]) 61 rfl rfl (by kernel_rfl) (by kernel_rfl) (by kernel_rfl) rfl (fun w' hw' => by obtain ⟨q0, q1, q2, q3, q4, q5⟩ := blk6 hw'.1; go_simp) hS1 ?_
              simp only [Act.put, List.setIfInBounds_toArray, List.set_cons_zero, List.set_cons_succ]
              refine held_take (i := 7) (v := .pointer (some ⟨g2, N * 6, none⟩)) 62 rfl rfl (by kernel_rfl) (by kernel_rfl) (by kernel_rfl) rfl (fun w' hw' => by go_simp) hS1 ?_
              simp only [Act.put, List.setIfInBounds_toArray, List.set_cons_zero, List.set_cons_succ]
              refine held_none (i := 8) (w' := X2.drew.setCells g2 (N * 6) (Ev.cl ⟨bth, bkd, bad, bwd, bown, ber⟩)) (by kernel_rfl) rfl rfl rfl (run_store_mid_op rfl g2 (N * 6) #[.int .i64 bth, .int .i64 bkd, .int .u64 bad, .int .u64 bwd, .bool bown, .int .i64 ber] rfl rfl th1 (by kernel_rfl) (by simp [Value.oneCell'])) hS2 ?_
              simp only [List.setIfInBounds_toArray, List.set_cons_zero, List.set_cons_succ]
              refine held_take (i := 9) (v := .pointer (some ⟨g2, (N + 1) * 6, none⟩)) 63 rfl rfl (by kernel_rfl) (by kernel_rfl) (by kernel_rfl) rfl (fun w' hw' => by go_simp) hS2 ?_
              simp only [Act.put, List.setIfInBounds_toArray, List.set_cons_zero, List.set_cons_succ]
              refine held_none (i := 10) (w' := X3) (by kernel_rfl) rfl rfl rfl (by rw [← HX3.out]; exact run_store_mid_op rfl g2 ((N + 1) * 6) #[.int .i64 ath, .int .i64 akd, .int .u64 aad, .int .u64 awd, .bool aown, .int .i64 aer] rfl rfl th2 (by kernel_rfl) (by simp [Value.oneCell'])) hS3 ?_
              refine held_end (by kernel_rfl) ?_ _
              have K4 := k1.trans K3
              have CH1 := check_any _ L X3 (HE.out _ K4) (HG.out _ K4).1 (HG.out _ K4).2
              have M := HM.out
              have wf2 : ∀ e ∈ (L.set N ⟨bth, bkd, bad, bwd, bown, ber⟩).set (N + 1) ⟨ath, akd, aad, awd, aown, aer⟩, e.wf := fun e he => by
                rcases List.mem_or_eq_of_mem_set he with he | rfl
                · rcases List.mem_or_eq_of_mem_set he with he | rfl
                  · exact hwf0.out e he
                  · rw [← HB.out]; exact hwf0.out _ (List.getElem_mem _)
                · rw [← HA.out]; exact hwf0.out _ (List.getElem_mem _)
              have CH2 : ∀ W, Keeps (fun _ => False) X3 W → Calls Tryd.prog 16 #[.slice (some ⟨g2, 0, none⟩) L.length cap2] W fun ex w' => ex = .returned (.agg (odV (checkL ((L.set N ⟨bth, bkd, bad, bwd, bown, ber⟩).set (N + 1) ⟨ath, akd, aad, awd, aown, aer⟩)).1 (checkL ((L.set N ⟨bth, bkd, bad, bwd, bown, ber⟩).set (N + 1) ⟨ath, akd, aad, awd, aown, aer⟩)).2)) ∧ Keeps (fun _ => False) W w' := fun W k =>
                check_any _ _ W ⟨(M.els ev_len).keeps ev_ne k, wf2, by simpa using hbg0.out⟩ (HG.out _ (K4.trans k)).1 (HG.out _ (K4.trans k)).2
              have NN := num_any
              have sw := SW.out hca hcb hth
              generalize (L.set N ⟨bth, bkd, bad, bwd, bown, ber⟩).set (N + 1) ⟨ath, akd, aad, awd, aown, aer⟩ = L2 at *
              generalize checkL L = z at *
              generalize checkL L2 = z2 at *
              obtain ⟨za, ze⟩ := z
              obtain ⟨ya, ye⟩ := z2
              unfold odV at CH1 CH2
              dsimp only at CH1 CH2 sw
              clear M HM wf2 th1 th2 hS1 hS2 hS3 HX3 hb2 hcur l1 l2 ne1 ne2 b1 b2 HA HB SW CK hca hcb hdt hth KN
              by_cases hz : ze = 0
              · obtain rfl := sw.1 hz
                subst hz
                clear sw
                go_wp2_with fail
                refine CH1.mono ?_
                rintro ex X4 ⟨rfl, k4⟩
                go_wp2_with (go_at_call 29; refine (NN _ _).mono ?_; rintro ex w' ⟨rfl, rfl⟩)
                refine (CH2 _ k4).mono ?_
                rintro ex X5 ⟨rfl, k5⟩
                go_wp2_with (go_at_call 29; refine (NN _ _).mono ?_; rintro ex w' ⟨rfl, rfl⟩)
                go_ret
                exact ⟨by first | rfl | simp, (K4.trans k4).trans k5⟩
              · have hy : ye ≠ 0 := fun h => hz (sw.2 h)
                have q1 : (ze == 0) = false := by simpa using hz
                have q2 : (ye == 0) = false := by simpa using hy
                clear sw
                go_wp2_with fail
                refine CH1.mono ?_
                rintro ex X4 ⟨rfl, k4⟩
                go_wp2_with (go_at_call 29; refine (NN _ _).mono ?_; rintro ex w' ⟨rfl, rfl⟩)
                refine (CH2 _ k4).mono ?_
                rintro ex X5 ⟨rfl, k5⟩
                go_wp2_with (go_at_call 29; refine (NN _ _).mono ?_; rintro ex w' ⟨rfl, rfl⟩)
                go_ret
                exact ⟨by first | rfl | simp [q1, q2, hz, hy], (K4.trans k4).trans k5⟩
end Go.Proofs.YtdjkohbchmbofaaDoor
