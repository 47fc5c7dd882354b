
/- Walks of the document's Bytes (package parleyref08). No statement of the seat is proved here. -/
import Derived.Test.YtijommlodgpphaaDoorRdC
import Derived.Test.YtijommlodgpphaaDoorRfG
namespace Go.Proofs.YtijommlodgpphaaDoor
open Go.RowKit Go.Shelf

theorem Bts.lower {w : World} {base base' : Nat} {v : Value} {l : List UInt8} (h : Bts w base v l) (hb : base' ≤ base) : Bts w base' v l := by
  obtain ⟨⟨h1, h2⟩, h3⟩ := h
  refine ⟨⟨h1, ?_⟩, Nat.le_trans hb h3⟩
  rcases h2 with h2 | ⟨g, cap, cur, e, q, r⟩
  · exact .inl h2
  · exact .inr ⟨g, cap, cur, e, Nat.le_trans hb q, r⟩
theorem Bts.one (w : World) (x : UInt8) : Bts (w.alloc (.cells #[.int .u8 x.toNat] 5)) w.heap.size (.slice (some ⟨w.heap.size, 0, none⟩) 1 1) [x] :=
  ⟨⟨rfl, .inr ⟨w.heap.size, 1, _, rfl, Nat.le_refl _, (MapKept.heap_alloc _ _).1, Nat.le_refl _, by simp [maxLen], by simp, by simp⟩⟩, by simp⟩
theorem flat_small : ∀ l : List Nat, (∀ x ∈ l, x < 8) → (l.map fun (x : Nat) => (x : Int)).flatMap (fun n => sevL n.toNat) = l.map UInt8.ofNat
  | [], _ => rfl
  | x :: l, h => by
    have hx := h x (by simp)
    simp only [List.map_cons, List.flatMap_cons, flat_small l fun y hy => h y (by simp [hy]), Int.toNat_natCast, sevL_last (show ¬ 127 < x by omega)]
    rfl

set_option maxRecDepth 100000 in
set_option maxHeartbeats 4000000 in
theorem rbytes_any (i : I5) (w : World) (hf : formedB i = true) (hw : i.wf) : Calls Tryd.prog 25 #[.agg #[.int .i64 i.op, .int .i64 i.a, .int .i64 i.b, .int .i64 i.c, .int .u64 i.n]] w fun e w' => ∃ v', e = .returned v' ∧ Bts w' w.heap.size v' (bytesL i) ∧ Keeps (fun _ => False) w w' := by
  have HL := numL_eq hf
  obtain ⟨⟨h0, h1⟩, -, ⟨ha0, ha1⟩, ⟨hb0, hb1⟩, ⟨hc0, hc1⟩⟩ := formed_facts hf
  obtain ⟨-, -, -, -, hn0, hn1⟩ := hw
  have IY := rinfo_yes i.op h0 h1
  have hm3 := (regsN_le h0 h1).1
  unfold bytesL
  rw [HL]
  unfold regL
  obtain ⟨op, a, b, c, n⟩ := i
  dsimp only at *
  obtain ⟨u, rfl⟩ : ∃ u : Nat, n = u := ⟨n.toNat, by omega⟩
  generalize regsN op = m at *
  generalize numB op = nb at *
  generalize tgtB op = tb at *
  generalize outB op = ob at *
  generalize insB op = ib at *
  clear HL hf
  obtain ⟨op, rfl⟩ : ∃ x : Nat, op = x := ⟨op.toNat, by omega⟩
  obtain ⟨a, rfl⟩ : ∃ x : Nat, a = x := ⟨a.toNat, by omega⟩
  obtain ⟨b, rfl⟩ : ∃ x : Nat, b = x := ⟨b.toNat, by omega⟩
  obtain ⟨c, rfl⟩ : ∃ x : Nat, c = x := ⟨c.toNat, by omega⟩
  have hfl : (([(a : Int), b, c].take m).flatMap fun n => sevL n.toNat) = ([a, b, c].take m).map UInt8.ofNat := by
    rw [← flat_small, List.map_take]
    · rfl
    · intro x hx
      have := List.mem_of_mem_take hx
      simp at this
      omega
  rw [List.flatMap_append, hfl]
  clear hfl
  obtain ⟨M, hM⟩ : ∃ M : Int, M = m := ⟨_, rfl⟩
  rw [← hM] at IY
  have HM : Hid (M = m) := hM
  clear hM
  have RR := rregs_any op a b c u
  have hk0 := (Keeps.refl (fun _ => False) w).alloc (.cells #[.int .i64 op, .int .i64 a, .int .i64 b, .int .i64 c, .int .u64 u] 38)
  have hop : (UInt8.ofNat op).toNat = op := by simp; omega
  simp only [Int.toNat_natCast]
  go_enter Tryd.func25, Tryd.ntmps25
  go_wp2_with fail
  refine (IY _).mono ?_
  rintro e w1 ⟨rfl, k1⟩
  have hb : w1.heap[w.heap.size]? = some (.cells #[.int .i64 op, .int .i64 a, .int .i64 b, .int .i64 c, .int .u64 u] 38 (0, 0)) := (k1.block _ (by simp) (fun f => f)).trans (MapKept.heap_alloc _ _).1
  have k2 := (hk0.trans k1).alloc (.cells #[.int .i64 M, .bool nb, .bool tb, .bool ob, .bool ib] 52)
  have hb2 := ((MapKept.heap_alloc w1 (.cells #[.int .i64 M, .bool nb, .bool tb, .bool ob, .bool ib] 52)).2 _ (lt_of_block hb)).trans hb
  have hd2 := (MapKept.heap_alloc w1 (.cells #[.int .i64 M, .bool nb, .bool tb, .bool ob, .bool ib] 52)).1
  obtain ⟨c0, c1, c2, c3, c4⟩ := cells5 hb2
  clear IY k1 hk0 hb
  go_wp2_with fail
  refine (RR _).mono ?_
  rintro e w3 ⟨rfl, k3⟩
  have hb3 := (k3.block _ (lt_of_block hb2) (fun f => f)).trans hb2
  have hd3 := (k3.block _ (lt_of_block hd2) (fun f => f)).trans hd2
  have hb4 := ((MapKept.heap_alloc w3 (.cells #[.int .i64 a, .int .i64 b, .int .i64 c] 63)).2 _ (lt_of_block hb3)).trans hb3
  have hd4 := ((MapKept.heap_alloc w3 (.cells #[.int .i64 a, .int .i64 b, .int .i64 c] 63)).2 _ (lt_of_block hd3)).trans hd3
  have he4 := (MapKept.heap_alloc w3 (.cells #[.int .i64 a, .int .i64 b, .int .i64 c] 63)).1
  have k4 := (k2.trans k3).alloc (.cells #[.int .i64 a, .int .i64 b, .int .i64 c] 63)
  obtain ⟨x0, -, -, -, -⟩ := cells5 hb4
  have B0 := Bts.one (w3.alloc (.cells #[.int .i64 a, .int .i64 b, .int .i64 c] 63)) (UInt8.ofNat op)
  have kB := (Keeps.refl (fun _ => False) (w3.alloc (.cells #[.int .i64 a, .int .i64 b, .int .i64 c] 63))).alloc (.cells #[.int .u8 (UInt8.ofNat op).toNat] 5)
  rw [hop] at B0 kB
  obtain ⟨W, hW⟩ : ∃ W, W = w3.alloc (.cells #[.int .i64 a, .int .i64 b, .int .i64 c] 63) := ⟨_, rfl⟩
  have hWs : W.heap.size = w3.heap.size + 1 := by rw [hW]; simp
  have HS : Hid (w.heap.size ≤ W.heap.size) := by rw [hW]; exact k4.size
  have HX : Hid (∀ X, Keeps (fun _ => False) W X → X.cell? ⟨w1.heap.size, 0, none⟩ = some (.int .i64 M) ∧ X.cell? ⟨w1.heap.size, 1, none⟩ = some (.bool nb) ∧ X.cell? ⟨w.heap.size, 4, none⟩ = some (.int .u64 u) ∧ (∀ k (hk : k < 3), X.cell? ⟨w3.heap.size, k, none⟩ = some (.int .i64 (([a, b, c][k]'hk : Nat) : Int)))) := fun X kx => by
    rw [← hW] at hb4 hd4 he4
    have e1 := (kx.block _ (lt_of_block hb4) (fun f => f)).trans hb4
    have e2 := (kx.block _ (lt_of_block hd4) (fun f => f)).trans hd4
    have e3 := (kx.block _ (lt_of_block he4) (fun f => f)).trans he4
    obtain ⟨-, -, -, -, x4⟩ := cells5 e1
    obtain ⟨y0, y1, -, -, -⟩ := cells5 e2
    refine ⟨y0, y1, x4, fun k hk => ?_⟩
    rw [cell_of_block e3]
    have : k = 0 ∨ k = 1 ∨ k = 2 := by omega
    rcases this with rfl | rfl | rfl <;> rfl
  rw [← hW] at k4
  have HK : Hid (Keeps (fun _ => False) w W) := k4
  have B1 : Hid (Bts ((w3.alloc (.cells #[.int .i64 a, .int .i64 b, .int .i64 c] 63)).alloc (.cells #[.int .u8 op] 5)) W.heap.size (.slice (some ⟨w3.heap.size + 1, 0, none⟩) 1 1) [UInt8.ofNat op] ∧ Keeps (fun _ => False) W ((w3.alloc (.cells #[.int .i64 a, .int .i64 b, .int .i64 c] 63)).alloc (.cells #[.int .u8 op] 5))) := by
    constructor
    · rw [hWs]
      rw [World.size_alloc] at B0
      exact B0
    · rw [hW]; exact kB
  clear RR c0 c1 c2 c3 c4 hb2 hd2 hb3 hd3 hb4 hd4 he4 k2 k3 k4 B0 kB hW hWs
  go_wp2_with fail
  go_loopw [6, 7] (fun v v2 wr => ∃ (k : Nat), v2 = .int .i64 k ∧ k ≤ m ∧ Hid (Bts wr W.heap.size v (UInt8.ofNat op :: ([a, b, c].take k).map UInt8.ofNat) ∧ Keeps (fun _ => False) W wr)) (fun _ v _ => m - (intOf v).toNat)
  case atStart => exact ⟨0, rfl, Nat.zero_le _, ⟨by simpa using B1.out.1, B1.out.2⟩⟩
  case round =>
    obtain ⟨k, rfl, hkm, hh⟩ := hrel
    obtain ⟨q1, q2⟩ := hh.out
    obtain ⟨y0, y1, x4, hz⟩ := HX.out wr q2
    clear B1
    by_cases hlt : k < m
    · have hki : (k : Int) < M := by rw [HM.out]; omega
      have hk3 : k < [a, b, c].length := by simp; omega
      have hk3i : (k : Int) < 3 := by omega
      have hzk := hz k (by omega)
      have hr8 : [a, b, c][k] < 8 := by
        have := List.getElem_mem hk3
        simp only [List.mem_cons, List.not_mem_nil, or_false] at this
        omega
      have hXl : (UInt8.ofNat op :: ([a, b, c].take k).map UInt8.ofNat).length ≤ 4 := by
        rw [List.length_cons, List.length_map, List.length_take]
        simp only [List.length_cons, List.length_nil]
        omega
      have hXn : UInt8.ofNat op :: ([a, b, c].take (k + 1)).map UInt8.ofNat = (UInt8.ofNat op :: ([a, b, c].take k).map UInt8.ofNat) ++ [UInt8.ofNat ([a, b, c][k])] := by
        rw [List.take_succ_eq_append_getElem hk3, List.map_append]; rfl
      generalize [a, b, c][k] = r at *
      have hri : (r : Int) < 256 := by omega
      obtain ⟨v1, w5, r1, r2, r3⟩ := q1.push (UInt8.ofNat r) (by omega)
      rw [show (UInt8.ofNat r).toNat = r by simp; omega] at r1
      have HR : Hid (_ = _) := r1
      have KK := Grew.kept r3 q2 q1
      have HN : Hid (Bts w5 W.heap.size v1 (UInt8.ofNat op :: ([a, b, c].take (k + 1)).map UInt8.ofNat)) := by rw [hXn]; exact r2
      clear hz q1 q2 r1 r2 r3 hh hXn hXl y1 x4 hk3 HX
      go_wp2_with (at_builtin; refine wpList_append_run rfl _ _ 22 rfl rfl rfl HR.out ?_)
      go_roundw
      · exact ⟨k + 1, by simp, by omega, ⟨HN.out, KK⟩⟩
      · simp [intOf]; omega
    · obtain rfl : k = m := by omega
      have f1 : ¬ (k : Int) < M := by rw [HM.out]; omega
      cases nb
      · have KF := HK.out.trans q2
        have q1' := q1.lower HS.out
        clear hh hz HX HK HS
        go_wp2_with fail
        go_ret
        exact ⟨_, rfl, by simpa using q1', KF⟩
      · have HXl : Hid ((UInt8.ofNat op :: ([a, b, c].take k).map UInt8.ofNat).length ≤ 4) := by
          show _ ≤ _
          rw [List.length_cons, List.length_map, List.length_take]
          simp only [List.length_cons, List.length_nil]
          omega
        have hs10 := sevL_le10 (n := u) (by omega)
        obtain ⟨X0, hX0⟩ : ∃ X, X = UInt8.ofNat op :: ([a, b, c].take k).map UInt8.ofNat := ⟨_, rfl⟩
        rw [← hX0] at HXl q1
        have HX0 : Hid (_ = _) := hX0
        clear hX0
        clear hz HX
        go_wp2_with fail
        go_loopw [6, 8] (fun v m wr' => ∃ (x : Nat) (l' : List UInt8), m = .int .u64 x ∧ x < 18446744073709551616 ∧ Hid (Bts wr' W.heap.size v l' ∧ l' ++ sevL x = X0 ++ sevL u ∧ Keeps (fun _ => False) W wr')) (fun _ m _ => (intOf m).toNat)
        case atStart => exact ⟨u, X0, rfl, by omega, ⟨q1, rfl, q2⟩⟩
        case round =>
          clear q1 q2 hh y0 y1 x4
          obtain ⟨x, l', rfl, hx, hg⟩ := hrel
          obtain ⟨hB, hl, hG⟩ := hg.out
          have hlen := congrArg List.length hl
          have hX4 := HXl.out
          simp only [List.length_append] at hlen
          by_cases hgt : 127 < x
          · have hgi : (127 : Int) < x := by omega
            have hp := sevL_pos (x / 128)
            rw [sevL_more hgt, List.length_cons] at hlen
            obtain ⟨v1, w5, r1, r2, r3⟩ := hB.push (UInt8.ofNat (x % 128 + 128)) (by omega)
            rw [show (UInt8.ofNat (x % 128 + 128)).toNat = x % 128 + 128 by simp; omega] at r1
            have HR : Hid (_ = _) := r1
            have KK := Grew.kept r3 hG hB
            have HN : Hid ((l' ++ [UInt8.ofNat (x % 128 + 128)]) ++ sevL (x / 128) = X0 ++ sevL u) := by show _ = _; rw [← hl, sevL_more hgt]; simp
            clear hB hG hlen r1 r3 hg hl
            go_wp2_with (at_builtin; refine wpList_append_run rfl _ _ 22 rfl rfl rfl HR.out ?_)
            go_roundw
            · exact ⟨x / 128, l' ++ [UInt8.ofNat (x % 128 + 128)], by simp, by omega, ⟨r2, HN.out, KK⟩⟩
            · simp [intOf]; omega
          · have hgi : ¬ (127 : Int) < x := by omega
            rw [sevL_last hgt, List.length_singleton] at hlen
            obtain ⟨v1, w5, r1, r2, r3⟩ := hB.push (UInt8.ofNat x) (by omega)
            rw [show (UInt8.ofNat x).toNat = x by simp; omega] at r1
            have HR : Hid (_ = _) := r1
            rw [sevL_last hgt] at hl
            rw [hl] at r2
            have KF := HK.out.trans (Grew.kept r3 hG hB)
            have r2' := r2.lower HS.out
            clear hB hG hlen r1 r3 hl hg r2
            go_wp2_with (at_builtin; refine wpList_append_run rfl _ _ 22 rfl rfl rfl HR.out ?_)
            go_ret
            exact ⟨_, rfl, by rw [HX0.out] at r2'; simpa using r2', KF⟩
end Go.Proofs.YtijommlodgpphaaDoor
