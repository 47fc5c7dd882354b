
/- Walks of measured, and of Script of both. No statement of the seat is proved here. -/
import Derived.Test.YtljapgoeomedkaaDoorDbB
namespace Go.Proofs.YtljapgoeomedkaaDoor
open Go.RowKit Go.Shelf

def measB (c : Int) (n1 np n3 : Nat) : Bool := decide (1 ≤ c ∧ c ≤ 65536 ∧ (n1 : Int) ≤ c ∧ 1 ≤ np ∧ np ≤ 8 ∧ n3 ≤ 1048576)
def scrA (c : Int) (a1 : Option Addr) (n1 c1 : Nat) (ap : Option Addr) (np cp : Nat) (a3 : Option Addr) (n3 c3 : Nat) : Array Value := #[.int .i64 c, .slice a1 n1 c1, .slice ap np cp, .slice a3 n3 c3]
/-- What is wrong with a script. -/
noncomputable def scrV (c : Int) (n1 n3 : Nat) (Ps : List (List I5)) : Int × Int := if measB c n1 Ps.length n3 = true then (if (allV Ps).2.2 = 0 then (-1, 0) else ((allV Ps).1, 7)) else (-1, 7)
theorem allV_fine {Ps : List (List I5)} (h : (allV Ps).2.2 = 0) : (allV Ps).2.1 = -1 := by
  unfold allV at h ⊢
  cases e : firstK Ps.length (badF Ps) with
  | none => rfl
  | some k =>
    rw [e] at h
    obtain ⟨_, hb, _⟩ := firstK_some.1 e
    unfold badF at hb
    simp at hb
    exact absurd h hb

set_option maxRecDepth 100000 in
set_option maxHeartbeats 4000000 in
theorem measured_any (c : Int) (a1 : Option Addr) (n1 c1 : Nat) (ap : Option Addr) (np cp : Nat) (a3 : Option Addr) (n3 c3 : Nat) (w : World) : Calls Tryd.prog 43 #[.agg (scrA c a1 n1 c1 ap np cp a3 n3 c3)] w fun e w' => e = .returned (.bool (measB c n1 np n3)) ∧ Keeps (fun _ => False) w w' := by
  have k0 := (Keeps.refl (fun _ => False) w).alloc (.cells (scrA c a1 n1 c1 ap np cp a3 n3 c3) 63)
  unfold scrA at k0 ⊢
  by_cases h0 : ¬ (c ≥ 1)
  · rw [show measB c n1 np n3 = false from decide_eq_false (by omega)]
    go_enter Tryd.func43, Tryd.ntmps43
    go_wp2_with fail
    go_ret
    exact ⟨rfl, k0⟩
  · replace h0 : c ≥ 1 := Decidable.not_not.1 h0
    by_cases h1 : ¬ (c ≤ 65536)
    · rw [show measB c n1 np n3 = false from decide_eq_false (by omega)]
      go_enter Tryd.func43, Tryd.ntmps43
      go_wp2_with fail
      go_ret
      exact ⟨rfl, k0⟩
    · replace h1 : c ≤ 65536 := Decidable.not_not.1 h1
      by_cases h2 : ¬ ((n1 : Int) ≤ c)
      · rw [show measB c n1 np n3 = false from decide_eq_false (by omega)]
        go_enter Tryd.func43, Tryd.ntmps43
        go_wp2_with fail
        go_ret
        exact ⟨rfl, k0⟩
      · replace h2 : (n1 : Int) ≤ c := Decidable.not_not.1 h2
        by_cases h3 : ¬ ((np : Int) ≥ 1)
        · rw [show measB c n1 np n3 = false from decide_eq_false (by omega)]
          go_enter Tryd.func43, Tryd.ntmps43
          go_wp2_with fail
          go_ret
          exact ⟨rfl, k0⟩
        · replace h3 : (np : Int) ≥ 1 := Decidable.not_not.1 h3
          by_cases h4 : ¬ ((np : Int) ≤ 8)
          · rw [show measB c n1 np n3 = false from decide_eq_false (by omega)]
            go_enter Tryd.func43, Tryd.ntmps43
            go_wp2_with fail
            go_ret
            exact ⟨rfl, k0⟩
          · replace h4 : (np : Int) ≤ 8 := Decidable.not_not.1 h4
            by_cases h5 : ¬ ((n3 : Int) ≤ 1048576)
            · rw [show measB c n1 np n3 = false from decide_eq_false (by omega)]
              go_enter Tryd.func43, Tryd.ntmps43
              go_wp2_with fail
              go_ret
              exact ⟨rfl, k0⟩
            · replace h5 : (n3 : Int) ≤ 1048576 := Decidable.not_not.1 h5
              rw [show measB c n1 np n3 = true from decide_eq_true (by omega)]
              go_enter Tryd.func43, Tryd.ntmps43
              go_wp2_with fail
              go_ret
              exact ⟨rfl, k0⟩

set_option maxRecDepth 100000 in
set_option maxHeartbeats 4000000 in
theorem script_any (c : Int) (a1 : Option Addr) (n1 c1 : Nat) (ap : Option Addr) (cp : Nat) (a3 : Option Addr) (n3 c3 : Nat) (Ps : List (List I5)) (hn : Ps.length < 140737488355328) (w : World) (h : Pgs w (.slice ap Ps.length cp) Ps) (hG : Gb w) : Calls Tryd.prog 29 #[.agg (scrA c a1 n1 c1 ap Ps.length cp a3 n3 c3)] w fun e w' => e = .returned (.agg (wrV (scrV c n1 n3 Ps).1 (scrV c n1 n3 Ps).2)) ∧ Keeps (fun _ => False) w w' := by
  have A0 := heap_alloc2_new w (.cells (scrA c a1 n1 c1 ap Ps.length cp a3 n3 c3) 63) (.cells (wrV 0 0) 40)
  have KA := ((Keeps.refl (fun _ => False) w).alloc (.cells (scrA c a1 n1 c1 ap Ps.length cp a3 n3 c3) 63)).alloc (.cells (wrV 0 0) 40)
  have S0 := heap_alloc2_old w (.cells (scrA c a1 n1 c1 ap Ps.length cp a3 n3 c3) 63) (.cells (wrV 0 0) 40)
  have HI : Hid (∀ X, Keeps (fun _ => False) w X → Pgs X (.slice ap Ps.length cp) Ps ∧ Gb X) := fun X k => ⟨h.keeps k, hG.keeps k⟩
  have MS := measured_any c a1 n1 c1 ap Ps.length cp a3 n3 c3
  have hsv : scrV c n1 n3 Ps = if measB c n1 Ps.length n3 = true then (if (allV Ps).2.2 = 0 then (-1, 0) else ((allV Ps).1, 7)) else (-1, 7) := rfl
  unfold scrA wrV at A0 KA S0
  unfold scrA at MS ⊢
  clear h hG
  go_enter Tryd.func29, Tryd.ntmps29
  go_wp2_with fail
  refine (MS _).mono ?_
  rintro e w1 ⟨rfl, k1⟩
  have K1 := KA.trans k1
  have B1 := (k1.block _ (lt_of_block A0) (fun f => f)).trans A0
  have S1 := (k1.block _ (lt_of_block S0) (fun f => f)).trans S0
  clear MS A0 KA S0 k1
  rcases hm : measB c n1 Ps.length n3 with _ | _
  · rw [hm, if_neg (by decide)] at hsv
    go_wp2_with (refine wpList_store_row rfl 40 _ _ rfl (w.heap.size + 1) (wrV (-1) 7) rfl rfl 40 _ B1 (wr_size _ _) rfl (wr_all _ _) ?_)
    refine bodyPost_ret (wrong_ret1 rfl _ _ (w.heap.size + 1) (wrV (-1) 7) (setRow_heap _ _ _ _ _ _ B1) rfl rfl) rfl ?_
    exact ⟨by rw [hsv], K1.row (by omega) _⟩
  · rw [hm, if_pos rfl] at hsv
    have s2 : w1.cell? ⟨w.heap.size, 2, none⟩ = some (.slice ap Ps.length cp) := by rw [cell_of_block S1]; rfl
    have AL := all_any _ Ps hn w1 (HI.out w1 K1).1 (HI.out w1 K1).2
    have hfin := allV_fine (Ps := Ps)
    generalize allV Ps = av at *
    obtain ⟨n, x, y⟩ := av
    dsimp only at AL hsv hfin
    go_wp2_with fail
    refine AL.mono ?_
    rintro e w2 ⟨rfl, k2⟩
    have K2 := (K1.trans k2).alloc (.cells #[.int .i64 x, .int .i64 y] 40)
    have B2 := ((k2.alloc (.cells #[.int .i64 x, .int .i64 y] 40)).block _ (lt_of_block B1) (fun f => f)).trans B1
    unfold wrV
    clear AL K1 B1 S1 k2 s2
    by_cases hy : y = 0
    · subst hy
      obtain rfl := hfin rfl
      rw [if_pos rfl] at hsv
      go_wp2_with (refine wpList_store_row rfl 40 _ _ rfl (w.heap.size + 1) (wrV (-1) 0) rfl rfl 40 _ B2 (wr_size _ _) rfl (wr_all _ _) ?_)
      refine bodyPost_ret (wrong_ret1 rfl _ _ (w.heap.size + 1) (wrV (-1) 0) (setRow_heap _ _ _ _ _ _ B2) rfl rfl) rfl ?_
      exact ⟨by rw [hsv], K2.row (by omega) _⟩
    · rw [if_neg hy] at hsv
      go_wp2_with (refine wpList_store_row rfl 40 _ _ rfl (w.heap.size + 1) (wrV n 7) rfl rfl 40 _ B2 (wr_size _ _) rfl (wr_all _ _) ?_)
      refine bodyPost_ret (wrong_ret1 rfl _ _ (w.heap.size + 1) (wrV n 7) (setRow_heap _ _ _ _ _ _ B2) rfl rfl) rfl ?_
      exact ⟨by rw [hsv], K2.row (by omega) _⟩
end Go.Proofs.YtljapgoeomedkaaDoor
