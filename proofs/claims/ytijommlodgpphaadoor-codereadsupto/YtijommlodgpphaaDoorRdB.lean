
/- Walks of first (package code). No statement of the seat is proved here. -/
import Derived.Test.YtijommlodgpphaaDoorRdA
namespace Go.Proofs.YtijommlodgpphaaDoor
open Go.RowKit Go.Shelf

/-- So many numbers, one behind the other, and in how many bytes. -/
def whs : Nat → List UInt8 → Option (List Int × Nat)
  | 0, _ => some ([], 0)
  | k + 1, l => match whG 0 0 l with
    | none => none
    | some (n, s) => match whs k (l.drop s) with
      | none => none
      | some (N, u) => some ((n : Int) :: N, s + u)
/-- The instruction with which bytes begin. -/
def firstF : List UInt8 → Option (I5 × Nat)
  | [] => none
  | c :: t => if 1 ≤ c.toNat ∧ c.toNat ≤ 17 then (match whs (partsN c.toNat) t with
      | none => none
      | some (N, u) => if regOk c.toNat N then some (insOf c.toNat N, 1 + u) else none) else none
/-- What first answers. -/
def FPost (l : List UInt8) (e : Ending) : Prop := match firstF l with
  | some (i, k) => e = .returned (.tuple #[.agg i.cells, .int .i64 k])
  | none => e = .returned (.tuple #[.agg #[.int .i64 0, .int .i64 0, .int .i64 0, .int .i64 0, .int .u64 0], .int .i64 0])

theorem whG_some : ∀ (l : List UInt8) (a n m k : Nat), a ≤ 9 → n < 2 ^ (7 * a) → whG a n l = some (m, k) → m < 18446744073709551616 ∧ a + 1 ≤ k ∧ k ≤ a + l.length
  | [], _, _, _, _, _, _, h => by simp [whG] at h
  | c :: t, a, n, m, k, ha, hn, h => by
    rw [whG] at h
    have hc : c.toNat < 256 := c.toNat_lt
    split at h
    · cases h
    · rename_i h9
      have hm : c.toNat % 128 * 2 ^ (7 * a) ≤ 127 * 2 ^ (7 * a) := Nat.mul_le_mul_right _ (by omega)
      split at h
      · have h8 : a ≤ 8 := by omega
        have := whG_some t (a + 1) _ m k (by omega) (by rw [show 7 * (a + 1) = 7 * a + 7 by omega, Nat.pow_add]; omega) h
        simp only [List.length_cons]
        omega
      · split at h
        · cases h
        · simp only [Option.some.injEq, Prod.mk.injEq] at h
          obtain ⟨rfl, rfl⟩ := h
          refine ⟨?_, by omega, by simp only [List.length_cons]; omega⟩
          rcases (by omega : a = 9 ∨ a ≤ 8) with rfl | h8
          · simp at hn ⊢; omega
          · have h63 : 2 ^ (7 * a) ≤ 2 ^ 56 := Nat.pow_le_pow_right (by decide) (by omega)
            omega
theorem whs_one {l : List UInt8} {n s : Nat} (h : whG 0 0 l = some (n, s)) (k : Nat) : whs (k + 1) l = (whs k (l.drop s)).map fun r => ((n : Int) :: r.1, s + r.2) := by
  rw [whs, h]
  dsimp only
  cases whs k (l.drop s) with
  | none => rfl
  | some r => rfl
theorem whs_zero {l : List UInt8} (h : whG 0 0 l = none) (k : Nat) : whs (k + 1) l = none := by rw [whs, h]
/-- A part of bytes. -/
theorem BtAt.drop {w : World} {g off cap : Nat} {l : List UInt8} (h : BtAt w (.slice (some ⟨g, off, none⟩) l.length cap) l) (k : Nat) (hk : k ≤ l.length) (a : Addr) (ha : k < l.length → a = ⟨g, off + k, none⟩) (n c : Nat) (hn : n = l.length - k) (hc : n ≤ c) : BtAt w (.slice (some a) n c) (l.drop k) := by
  obtain ⟨⟨a', cap', e, hle, hcs⟩, hb⟩ := h
  simp only [Value.slice.injEq] at e
  obtain ⟨rfl, -, rfl⟩ := e
  refine ⟨⟨some a, c, by rw [List.length_drop, hn], by rw [List.length_drop]; omega, fun j hj => ?_⟩, by rw [List.length_drop]; omega⟩
  rw [List.length_drop] at hj
  obtain ⟨g', off', e', c0⟩ := hcs (k + j) (by omega)
  cases e'
  refine ⟨g, off + k, by rw [ha (by omega)], ?_⟩
  rw [List.getElem_drop, Nat.add_assoc]
  exact c0

set_option maxRecDepth 100000 in
set_option maxHeartbeats 4000000 in
theorem first_any (g off cap : Nat) (l : List UInt8) (w : World) (h : BtAt w (.slice (some ⟨g, off, none⟩) l.length cap) l) (hne : l ≠ []) : Calls Tryd.prog 10 #[.slice (some ⟨g, off, none⟩) l.length cap] w fun e w' => FPost l e ∧ Keeps (fun _ => False) w w' := by
  have kA := (Keeps.refl (fun _ => False) w).alloc (.cells #[.int .i64 0, .int .i64 0, .int .i64 0, .int .i64 0, .int .u64 0] 38)
  have HB : Hid (∀ X, Keeps (fun _ => False) w X → BtAt X (.slice (some ⟨g, off, none⟩) l.length cap) l) := fun X k => h.keeps k
  have hbad : Hid (firstF l = none → FPost l (.returned (.tuple #[.agg #[.int .i64 0, .int .i64 0, .int .i64 0, .int .i64 0, .int .u64 0], .int .i64 0]))) := fun h => by unfold FPost; rw [h]
  have hgood : Hid (∀ i k, firstF l = some (i, k) → FPost l (.returned (.tuple #[.agg i.cells, .int .i64 (k : Nat)]))) := fun i k h => by unfold FPost; rw [h]
  have hbig := h.big
  have hle : l.length ≤ cap := by
    obtain ⟨⟨a', cap', e, hle, _⟩, _⟩ := h
    simp only [Value.slice.injEq] at e
    omega
  obtain ⟨c, t, rfl⟩ : ∃ c t, l = c :: t := by
    cases l with
    | nil => exact absurd rfl hne
    | cons c t => exact ⟨c, t, rfl⟩
  have c0 : w.cell? ⟨g, off, none⟩ = some (.int .u8 c.toNat) := by
    obtain ⟨⟨a', cap', e, _, hcs⟩, _⟩ := h
    simp only [Value.slice.injEq] at e
    obtain ⟨g', off', e', q⟩ := hcs 0 (by simp)
    rw [← e.1] at e'
    cases e'
    simpa using q
  have hgl : g < w.heap.size := World.block_lt_of_cell? _ _ c0
  have hc256 : c.toNat < 256 := c.toNat_lt
  simp only [List.length_cons] at hle hbig
  clear h hne
  by_cases hk : 1 ≤ c.toNat ∧ c.toNat ≤ 17
  · obtain ⟨hk1, hk2⟩ := hk
    have hpar : firstF (c :: t) = match whs (partsN c.toNat) t with | none => none | some (N, u) => if regOk c.toNat N then some (insOf c.toNat N, 1 + u) else none := by
      rw [firstF, if_pos ⟨hk1, hk2⟩]
    have KY := known_yes (c.toNat : Int) (by omega) (by omega)
    have PA := parts_any (c.toNat : Int) (by omega) (by omega)
    have BU := built_any (c.toNat : Int) (by omega) (by omega)
    have hpn := partsN_le (op := (c.toNat : Int)) (by omega) (by omega)
    generalize c.toNat = k at *
    generalize hm : partsN k = m at *
    have mk := madeCells_u64 m
    have hmk := run_make_row' (P := Tryd.prog) 44 36 (.int .u64 0) 8 Tryd.underlying44 info_u64 rfl .i64 .i64 m (by omega) (by omega)
    have a1 := (MapKept.heap_alloc w (.cells #[.int .i64 0, .int .i64 0, .int .i64 0, .int .i64 0, .int .u64 0] 38)).1
    have bq := heap_two w (.cells #[.int .i64 0, .int .i64 0, .int .i64 0, .int .i64 0, .int .u64 0] 38) (.cells (madeCells (Value.int .u64 0).cells m) 36)
    have az := ((MapKept.heap_alloc (w.alloc (.cells #[.int .i64 0, .int .i64 0, .int .i64 0, .int .i64 0, .int .u64 0] 38)) (.cells (madeCells (Value.int .u64 0).cells m) 36)).2 _ (lt_of_block a1)).trans a1
    have kq := kA.alloc (.cells (madeCells (Value.int .u64 0).cells m) 36)
    go_enter Tryd.func10, Tryd.ntmps10
    go_wp2_with (first | (go_at_call 19; refine (KY _).mono ?_; rintro e w' ⟨rfl, rfl⟩) | (go_at_call 20; refine (PA _).mono ?_; rintro e w' ⟨rfl, rfl⟩))
    clear hmk PA KY
    go_loopw [6, 25] (fun v1 v2 wr => ∃ (Ns : List Nat) (used : Nat), v1 = .int .i64 (1 + used : Nat) ∧ v2 = .int .i64 Ns.length ∧ Ns.length ≤ m ∧ used ≤ t.length ∧ Hid (whs m t = (whs (m - Ns.length) (t.drop used)).map (fun r => (Ns.map (fun (n : Nat) => (n : Int)) ++ r.1, used + r.2)) ∧ (∀ n ∈ Ns, n < 18446744073709551616) ∧ wr.heap[w.heap.size + 1]? = some (.cells (u64s (Ns.map (fun (n : Nat) => (n : Int)) ++ List.replicate (m - Ns.length) 0)) 36 (0, 0)) ∧ wr.heap[w.heap.size]? = some (.cells #[.int .i64 0, .int .i64 0, .int .i64 0, .int .i64 0, .int .u64 0] 38 (0, 0)) ∧ Keeps (fun _ => False) w wr)) (fun _ v _ => m - (intOf v).toNat)
    case atStart => exact ⟨[], 0, rfl, rfl, Nat.zero_le _, Nat.zero_le _, ⟨by simp, by simp, bq.trans (by rw [mk]; simp), az, kq⟩⟩
    case round =>
      obtain ⟨Ns, used, rfl, rfl, hnl, hul, hh⟩ := hrel
      clear bq az kq
      obtain ⟨r1, r0, r2, r3, r5⟩ := hh.out
      by_cases hlt : Ns.length < m
      · have hli : (Ns.length : Int) < m := by omega
        have hs0 : (0 : Int) ≤ ((1 + used : Nat) : Int) := by omega
        have hs1 : ((1 + used : Nat) : Int) ≤ (t.length + 1 : Nat) := by omega
        have HB' := HB.out wr r5
        have hdr : (c :: t).drop (1 + used) = t.drop used := by rw [Nat.add_comm]; rfl
        have HW := fun a n c' (ha : 1 + used < t.length + 1 → a = (⟨g, off + (1 + used), none⟩ : Addr)) hn hc => whole_any _ _ wr (HB'.drop (1 + used) (by simp; omega) a (by simpa using ha) n c' hn hc)
        rw [hdr] at HW
        obtain ⟨d, hd1⟩ : ∃ d, m - Ns.length = d + 1 := ⟨m - Ns.length - 1, by omega⟩
        clear HB' hdr
        simp only [List.length_cons] at *
        by_cases hcap : 1 + used < cap
        · have hci : ((1 + used : Nat) : Int) < cap := by omega
          clear r1 r0 r2 r3 r5
          go_wp2_with fail
          refine (HW _ _ _ (fun _ => rfl) (by omega) (by omega)).mono ?_
          rintro e w3 ⟨hW, hw3⟩
          replace hw3 := hw3.symm
          subst hw3
          obtain ⟨r1, r0, r2, r3, r5⟩ := hh.out
          unfold WPost at hW
          cases hwg : whG 0 0 (t.drop used) with
          | none =>
            rw [hwg] at hW
            subst hW
            have hR := hbad.out (by rw [hpar, r1, hd1, whs_zero hwg]; rfl)
            have kz := r5.row (Nat.le_refl w.heap.size) #[.int .i64 0, .int .i64 0, .int .i64 0, .int .i64 0, .int .u64 0]
            clear r1 r0 r2 r5 hh HW
            go_wp2_with (refine wpList_store_row' rfl 38 _ _ rfl w.heap.size _ rfl rfl 38 _ r3 size_ins rfl (by simp [Value.oneCell']) ?_)
            refine bodyPost_ret (ins_ret rfl _ _ w.heap.size _ _ r3 rfl rfl) rfl ?_
            exact ⟨hR, kz⟩
          | some ns =>
            obtain ⟨n, sz⟩ := ns
            rw [hwg] at hW
            subst hW
            have hb := whG_some _ 0 0 n sz (by omega) (by simp) hwg
            rw [List.length_drop] at hb
            have hsz : ((sz : Int) == 0) = false := by simp; omega
            have cq : ∃ v, wr.cell? ⟨w.heap.size + 1, Ns.length, none⟩ = some v := by
              rw [cell_of_block r2]
              exact ⟨_, Array.getElem?_eq_getElem (by rw [u64s_size]; simp; omega)⟩
            obtain ⟨vq, cq⟩ := cq
            have fq := frozen_of_block r2 Ns.length
            have T5 : Keeps (fun _ => False) w (wr.setCell ⟨w.heap.size + 1, Ns.length, none⟩ (.int .u64 n)) := r5.setCell (.inl (by simp)) _
            have T3 := (Below.heap_setCell wr (⟨w.heap.size + 1, Ns.length, none⟩ : Addr) (.int .u64 n) w.heap.size (by simp)).trans r3
            have T2 := block_set r2 Ns.length (.int .u64 n)
            clear r2 r3 r5 hh HW
            go_wp2_with fail
            go_roundw
            · refine ⟨Ns ++ [n], used + sz, by simp; omega, by simp, by simp; omega, by omega, ⟨?_, ?_, ?_, T3, T5⟩⟩
              · rw [r1, hd1, whs_one hwg, List.drop_drop, List.length_append, List.length_singleton, show m - (Ns.length + 1) = d by omega]
                cases whs d (t.drop (used + sz)) with
                | none => rfl
                | some r => simp [Nat.add_assoc]
              · intro x hx
                rcases List.mem_append.1 hx with hx | hx
                · exact r0 x hx
                · simp at hx; omega
              · rw [T2, u64s_set]
                congr 2
                congr 1
                rw [List.set_append_right _ _ (by simp)]
                simp only [List.length_map, Nat.sub_self, List.map_append, List.map_cons, List.map_nil, List.append_assoc, List.length_append, List.length_singleton]
                congr 1
                rw [hd1, List.replicate_succ, List.set_cons_zero, show m - (Ns.length + 1) = d by omega]
                rfl
            · simp [intOf]; omega
        · have hci : ¬ ((1 + used : Nat) : Int) < cap := by omega
          have hut : used = t.length := by omega
          have hwg : whG 0 0 (t.drop used) = none := by rw [hut]; simp [whG]
          clear r1 r0 r2 r3 r5 hut
          go_wp2_with fail
          refine (HW _ _ _ (fun h => absurd h (by omega)) (by omega) (by omega)).mono ?_
          rintro e w3 ⟨hW, hw3⟩
          replace hw3 := hw3.symm
          subst hw3
          obtain ⟨r1, r0, r2, r3, r5⟩ := hh.out
          unfold WPost at hW
          rw [hwg] at hW
          subst hW
          have hR := hbad.out (by rw [hpar, r1, hd1, whs_zero hwg]; rfl)
          have kz := r5.row (Nat.le_refl w.heap.size) #[.int .i64 0, .int .i64 0, .int .i64 0, .int .i64 0, .int .u64 0]
          clear r1 r0 r2 r5 hh HW
          go_wp2_with (refine wpList_store_row' rfl 38 _ _ rfl w.heap.size _ rfl rfl 38 _ r3 size_ins rfl (by simp [Value.oneCell']) ?_)
          refine bodyPost_ret (ins_ret rfl _ _ w.heap.size _ _ r3 rfl rfl) rfl ?_
          exact ⟨hR, kz⟩
      · obtain hlm : Ns.length = m := by omega
        have hli : ¬ (Ns.length : Int) < m := by omega
        rw [hlm, Nat.sub_self, whs] at r1
        simp only [Option.map_some, List.append_nil, Nat.add_zero] at r1
        rw [hlm, Nat.sub_self, List.replicate_zero, List.append_nil] at r2
        have hb : ∀ x ∈ Ns.map (fun (n : Nat) => (n : Int)), 0 ≤ x ∧ x < 18446744073709551616 := by
          intro x hx
          obtain ⟨n, hn, rfl⟩ := List.mem_map.1 hx
          have := r0 n hn
          omega
        rw [r1] at hpar
        dsimp only at hpar
        have BB := BU (Ns.map (fun (n : Nat) => (n : Int))) (by simpa using hlm) hb wr (w.heap.size + 1) r2
        have hlen : (Ns.map (fun (n : Nat) => (n : Int))).length = m := by simpa using hlm
        rw [hlen] at BB
        generalize Ns.map (fun (n : Nat) => (n : Int)) = NN at *
        clear hh r1 r2 r0 BU hb hlen c0 HB
        rw [hlm]
        go_wp2_with fail
        refine BB.mono ?_
        rintro e w3 ⟨hU, k3⟩
        have s3 := (k3.block _ (lt_of_block r3) (fun f => f)).trans r3
        have s5 := r5.trans k3
        obtain ⟨U1, U2⟩ := hU
        cases hreg : regOk k NN with
        | false =>
          have he := U2 hreg
          subst he
          have hR := hbad.out (by rw [hpar, hreg]; rfl)
          have T3 := ((MapKept.heap_alloc w3 (.cells #[.int .i64 0, .int .i64 0, .int .i64 0, .int .i64 0, .int .u64 0] 38)).2 _ (lt_of_block s3)).trans s3
          have kz := (s5.alloc (.cells #[.int .i64 0, .int .i64 0, .int .i64 0, .int .i64 0, .int .u64 0] 38)).row (Nat.le_refl w.heap.size) #[.int .i64 0, .int .i64 0, .int .i64 0, .int .i64 0, .int .u64 0]
          clear BB U1 U2 hpar hbad hgood s5 r5 r3
          go_wp2_with (refine wpList_store_row' rfl 38 _ _ rfl w.heap.size _ rfl rfl 38 _ T3 size_ins rfl (by simp [Value.oneCell']) ?_)
          refine bodyPost_ret (ins_ret rfl _ _ w.heap.size _ _ T3 rfl rfl) rfl ?_
          exact ⟨hR, kz⟩
        | true =>
          have he := U1 hreg
          subst he
          rw [hreg] at hpar
          have hR := hgood.out _ _ hpar
          generalize insOf k NN = ii at *
          obtain ⟨op, a, b, cc, n⟩ := ii
          have T3 := ((MapKept.heap_alloc w3 (.cells #[.int .i64 op, .int .i64 a, .int .i64 b, .int .i64 cc, .int .u64 n] 38)).2 _ (lt_of_block s3)).trans s3
          have kz := (s5.alloc (.cells #[.int .i64 op, .int .i64 a, .int .i64 b, .int .i64 cc, .int .u64 n] 38)).row (Nat.le_refl w.heap.size) #[.int .i64 op, .int .i64 a, .int .i64 b, .int .i64 cc, .int .u64 n]
          clear BB U1 U2 hpar hbad hgood s5 r5 r3
          dsimp only [I5.cells] at *
          go_wp2_with (refine wpList_store_row' rfl 38 _ _ rfl w.heap.size _ rfl rfl 38 _ T3 size_ins rfl (by simp [Value.oneCell']) ?_)
          refine bodyPost_ret (ins_ret rfl _ _ w.heap.size _ _ T3 rfl rfl) rfl ?_
          exact ⟨hR, kz⟩
  · have KN := known_no (c.toNat : Int) (by omega)
    have hR := hbad.out (by rw [firstF, if_neg hk])
    have a1 := (MapKept.heap_alloc w (.cells #[.int .i64 0, .int .i64 0, .int .i64 0, .int .i64 0, .int .u64 0] 38)).1
    have kz := kA.row (Nat.le_refl w.heap.size) #[.int .i64 0, .int .i64 0, .int .i64 0, .int .i64 0, .int .u64 0]
    generalize c.toNat = k at *
    clear hbad hgood HB hk
    go_enter Tryd.func10, Tryd.ntmps10
    go_wp2_with (first | (go_at_call 19; refine (KN _).mono ?_; rintro e w' ⟨rfl, hw'⟩; replace hw' := hw'.symm; subst hw') | (refine wpList_store_row' rfl 38 _ _ rfl w.heap.size _ rfl rfl 38 _ a1 size_ins rfl (by simp [Value.oneCell']) ?_))
    refine bodyPost_ret (ins_ret rfl _ _ w.heap.size _ _ a1 rfl rfl) rfl ?_
    exact ⟨hR, kz⟩
end Go.Proofs.YtijommlodgpphaaDoor
