
/- Programs lent; the document's followers; the law CheckFollowers. No statement of the seat is proved here. -/
import Derived.Test.YtljapgoeomedkaaDoorChL
namespace Go.Proofs.YtljapgoeomedkaaDoor
open Go.RowKit Go.Shelf

def i7 : I5 := ⟨-7, 0, 0, 0, 0⟩
theorem wf_i7 : i7.wf := by unfold I5.wf i7; decide
set_option maxRecDepth 100000 in
set_option maxHeartbeats 4000000 in
theorem lent_any (v : Value) (L : List I5) (w : World) (h : InsAt w v L) (hb : (L.length + 1) * 40 ≤ 140737488355328) :
    Calls Tryd.prog 9 #[v] w fun e w' => (∃ g cap, e = .returned (.slice (some ⟨g, 0, none⟩) L.length cap) ∧ InsB w' g (L ++ [i7]) ∧ L.length + 1 ≤ cap ∧ w.heap.size ≤ g) ∧ Keeps (fun _ => False) w w' := by
  obtain ⟨v1, w1, r1, i1, g1⟩ := (Irs.nil w).app v L h (by simp; omega)
  rw [List.nil_append] at i1
  have k1 := Irs.kept g1 (Keeps.refl (fun _ => False) w) (Irs.nil w)
  obtain ⟨v2, w2, r2, i2, g2⟩ := i1.push2 i7 wf_i7 hb
  have k2 := Irs.kept g2 k1 i1
  obtain ⟨g, cap, rfl, hg, hcap, hB⟩ := InsB.of_own i2 (by simp)
  rw [List.length_append, List.length_singleton] at hcap r2
  obtain ⟨⟨a0, c0, rfl, _⟩, -, -⟩ := h
  have HA : Hid _ := r1
  have HB : Hid _ := r2
  have hc1 : (L.length : Int) ≤ cap := by omega
  clear r1 r2 i1 g1 i2 g2 k1
  go_enter Tryd.func9, Tryd.ntmps9
  go_wp2_with (at_builtin; first | (refine wpList_append_run rfl _ _ 22 rfl rfl rfl HA.out ?_; clear HA) | (refine wpList_append_run rfl _ _ 22 rfl rfl rfl HB.out ?_; clear HB))
  go_ret
  exact ⟨⟨g, cap, rfl, hB, hcap, hg⟩, k2⟩

theorem target_any (n : Int) (hn : 0 ≤ n) (h64 : n < 18446744073709551616) (w : World) : Calls Tryd.prog 41 #[.int .u64 n] w fun e w' => e = .returned (.int .i64 (min n 2147483647)) ∧ w' = w := by
  by_cases h : n > 2147483647
  · rw [show min n 2147483647 = 2147483647 by omega]
    go_enter Tryd.func41, Tryd.ntmps41
    go_wp2_with fail
    go_ret
    exact ⟨rfl, rfl⟩
  · rw [show min n 2147483647 = n by omega]
    go_enter Tryd.func41, Tryd.ntmps41
    go_wp2_with fail
    go_ret
    exact ⟨rfl, rfl⟩

/-- What the document's Followers answers. -/
def GPost (i : I5) (a : Nat) (w : World) (e : Ending) (w' : World) : Prop := ∃ v, e = .returned v ∧ NumAt w' v ((folL i a).map fun (n : Nat) => (n : Int)) ∧ Keeps (fun _ => False) w w'
theorem num_one {w : World} {x : Int} : NumAt (w.alloc (.cells #[.int .i64 x] 3)) (.slice (some ⟨w.heap.size, 0, none⟩) 1 1) [x] :=
  num_block (L := [x]) (n := 1) (heap_alloc_new _ _) rfl (fun k hk => by obtain rfl : k = 0 := (by simp at hk; omega); rfl) 1
theorem num_two {w : World} {x y : Int} : NumAt (w.alloc (.cells #[.int .i64 x, .int .i64 y] 3)) (.slice (some ⟨w.heap.size, 0, none⟩) 2 2) [x, y] :=
  num_block (L := [x, y]) (n := 2) (heap_alloc_new _ _) rfl (fun k hk => by
    have : k = 0 ∨ k = 1 := by simp at hk; omega
    rcases this with rfl | rfl <;> rfl) 2

set_option maxRecDepth 100000 in
set_option maxHeartbeats 4000000 in
theorem rfollow_any (v : Value) (p : List I5) (a : Nat) (w : World) (h : InsAt w v p) (hlt : a < p.length) : Calls Tryd.prog 26 #[v, .int .i64 a] w (GPost (at5 p a) a w) := by
  obtain ⟨⟨av, cap, rfl, hc⟩, hwf, hbig⟩ := h
  obtain ⟨pg, po, rfl, d0, d1, d2, d3, d4⟩ := hc a hlt
  have h5 : p[a]'hlt = at5 p a := by simp [at5, hlt]
  have hw5 := hwf _ (List.getElem_mem hlt)
  rw [h5] at d0 d1 d2 d3 d4 hw5
  have hai : (a : Int) < p.length := by omega
  have ht := tgt_int hw5
  have TA := target_any (at5 p a).n hw5.2.2.2.2.1 hw5.2.2.2.2.2
  clear hc h5
  generalize at5 p a = i at *
  unfold GPost folL
  generalize tgtN i = t at *
  obtain ⟨op, ia, ib, ic, n⟩ := i
  dsimp only at d0 d1 d2 d3 d4 ht TA ⊢
  rw [← ht] at TA
  clear ht
  obtain ⟨w0, hw0⟩ : ∃ W, W = w.alloc (.cells #[.int .i64 op, .int .i64 ia, .int .i64 ib, .int .i64 ic, .int .u64 n] 50) := ⟨_, rfl⟩
  have k0 : Keeps (fun _ => False) w w0 := by rw [hw0]; exact (Keeps.refl _ _).alloc _
  have e0 : w0.heap.size = w.heap.size + 1 := by rw [hw0]; simp
  have one := fun x : Int => num_one (w := w0) (x := x)
  have two := fun x y : Int => num_two (w := w0) (x := x) (y := y)
  rw [e0] at one two
  have ka := fun o => k0.alloc (w := w0) o
  rw [hw0] at one two k0 ka
  have H1 : Hid (∀ x : Int, NumAt ((w.alloc (.cells #[.int .i64 op, .int .i64 ia, .int .i64 ib, .int .i64 ic, .int .u64 n] 50)).alloc (.cells #[.int .i64 x] 3)) (.slice (some ⟨w.heap.size + 1, 0, none⟩) 1 1) [x]) := one
  have H2 : Hid (∀ x y : Int, NumAt ((w.alloc (.cells #[.int .i64 op, .int .i64 ia, .int .i64 ib, .int .i64 ic, .int .u64 n] 50)).alloc (.cells #[.int .i64 x, .int .i64 y] 3)) (.slice (some ⟨w.heap.size + 1, 0, none⟩) 2 2) [x, y]) := two
  have HK : Hid (∀ o, Keeps (fun _ => False) w ((w.alloc (.cells #[.int .i64 op, .int .i64 ia, .int .i64 ib, .int .i64 ic, .int .u64 n] 50)).alloc o)) := ka
  clear one two ka hw0 e0 w0
  by_cases h1 : op = 17
  · subst h1
    go_enter Tryd.func26, Tryd.ntmps26
    go_wp2_with fail
    go_ret
    exact ⟨_, rfl, num_nil _, k0⟩
  · rw [if_neg h1]
    by_cases h2 : op = 8
    · subst h2
      go_enter Tryd.func26, Tryd.ntmps26
      go_wp2_with fail
      refine (TA _).mono ?_
      rintro e w1 ⟨rfl, rfl⟩
      go_wp2_with fail
      go_ret
      exact ⟨_, rfl, by simpa using H1.out t, HK.out _⟩
    · by_cases h3 : op = 16
      · subst h3
        go_enter Tryd.func26, Tryd.ntmps26
        go_wp2_with fail
        refine (TA _).mono ?_
        rintro e w1 ⟨rfl, rfl⟩
        go_wp2_with fail
        go_ret
        exact ⟨_, rfl, by simpa using H1.out t, HK.out _⟩
      · rw [if_neg (by omega)]
        by_cases h4 : op = 9
        · subst h4
          rw [if_pos rfl]
          by_cases h5 : t < a + 1
          · have h5i : (t : Int) < (a : Int) + 1 := by omega
            rw [if_pos h5]
            go_enter Tryd.func26, Tryd.ntmps26
            go_wp2_with fail
            refine (TA _).mono ?_
            rintro e w1 ⟨rfl, rfl⟩
            go_wp2_with fail
            go_ret
            exact ⟨_, rfl, by simpa using H2.out t (a + 1), HK.out _⟩
          · have h5i : ¬ (t : Int) < (a : Int) + 1 := by omega
            rw [if_neg h5]
            by_cases h6 : a + 1 < t
            · have h6i : (t : Int) > (a : Int) + 1 := by omega
              rw [if_pos h6]
              go_enter Tryd.func26, Tryd.ntmps26
              go_wp2_with fail
              refine (TA _).mono ?_
              rintro e w1 ⟨rfl, rfl⟩
              go_wp2_with fail
              go_ret
              exact ⟨_, rfl, by simpa using H2.out (a + 1) t, HK.out _⟩
            · have h6i : ¬ (t : Int) > (a : Int) + 1 := by omega
              rw [if_neg h6]
              go_enter Tryd.func26, Tryd.ntmps26
              go_wp2_with fail
              refine (TA _).mono ?_
              rintro e w1 ⟨rfl, rfl⟩
              go_wp2_with fail
              go_ret
              exact ⟨_, rfl, by simpa using H1.out (a + 1), HK.out _⟩
        · rw [if_neg h4]
          go_enter Tryd.func26, Tryd.ntmps26
          go_wp2_with fail
          go_ret
          exact ⟨_, rfl, by simpa using H1.out (a + 1), HK.out _⟩

set_option maxRecDepth 100000 in
set_option maxHeartbeats 4000000 in
theorem followers_law (v : Value) (p : List I5) (a : Int) (w : World) (h : InsAt w v p) (hb : (p.length + 1) * 40 ≤ 140737488355328) (hG : Gb w) : Calls Tryd.prog 4 #[v, .int .i64 a] w fun e w' => e = .returned (.bool true) ∧ Keeps (fun _ => False) w w' := by
  have LA := lent_any v p w h hb
  have HH : Hid (InsAt w v p ∧ Gb w) := ⟨h, hG⟩
  have NA := num_any
  obtain ⟨⟨av, cap, rfl, -⟩, hwf, hbig⟩ := h
  clear hG
  go_enter Tryd.func4, Tryd.ntmps4
  go_wp2_with fail
  refine LA.mono ?_
  rintro e w1 ⟨⟨g, c, rfl, hB, hc, hg⟩, k1⟩
  have IB := (hB.take p.length).insAt c (by simpa using hwf) (by simpa using hbig)
  rw [List.take_left] at IB
  have FA := followers_any _ p a w1 IB
  clear IB LA
  go_wp2_with fail
  refine FA.mono ?_
  rintro e w2 ⟨k2, hy, hn⟩
  have K2 := k1.trans k2
  by_cases ha : 0 ≤ a ∧ a < p.length
  · obtain ⟨u, rfl, hI⟩ := hy ha
    obtain ⟨k, rfl⟩ : ∃ k : Nat, a = (k : Int) := ⟨a.toNat, by omega⟩
    rw [Int.toNat_natCast] at hI
    have hlt : k < p.length := by omega
    have h1 : ¬ (k : Int) < 0 := by omega
    have h2 : ¬ (k : Int) ≥ p.length := by omega
    have RF := rfollow_any _ p k w2 (HH.out.1.keeps K2) hlt
    have HI : Hid (NumAt w2 u ((folL (at5 p k) k).map fun (n : Nat) => (n : Int))) := hI.num
    have F2 := folL_len (at5 p k) k
    generalize hF : (folL (at5 p k) k) = F at *
    clear hy hn hI FA hB
    go_wp2_with fail
    refine (NA _ _).mono ?_
    rintro e w3 ⟨rfl, rfl⟩
    go_wp2_with fail
    refine RF.mono ?_
    rintro e w4 ⟨u4, rfl, n4, k4⟩
    rw [hF] at n4
    have SI := sameints_any _ _ _ (by simp; omega) w4 (HI.out.keeps k4) n4
    clear RF n4
    go_wp2_with fail
    refine SI.mono ?_
    rintro e w5 ⟨rfl, k5⟩
    have K5 := (K2.trans k4).trans k5
    have KN := known_any w5 (HH.out.2.keeps K5)
    clear SI
    go_wp2_with fail
    refine KN.mono ?_
    rintro e w6 ⟨rfl, k6⟩
    go_wp2_with fail
    go_ret
    exact ⟨rfl, K5.trans k6⟩
  · obtain rfl := hn ha
    clear hy hn FA hB
    have KN := known_any w2 (HH.out.2.keeps K2)
    by_cases h1 : a < 0
    · go_wp2_with fail
      refine (NA _ _).mono ?_
      rintro e w3 ⟨rfl, rfl⟩
      go_wp2_with fail
      refine KN.mono ?_
      rintro e w6 ⟨rfl, k6⟩
      go_wp2_with fail
      go_ret
      exact ⟨rfl, K2.trans k6⟩
    · have h2 : a ≥ p.length := by omega
      go_wp2_with fail
      refine (NA _ _).mono ?_
      rintro e w3 ⟨rfl, rfl⟩
      go_wp2_with fail
      refine KN.mono ?_
      rintro e w6 ⟨rfl, k6⟩
      go_wp2_with fail
      go_ret
      exact ⟨rfl, K2.trans k6⟩
end Go.Proofs.YtljapgoeomedkaaDoor
