
/- Walks of Bytes (package code). No statement of the seat is proved here. -/
import Derived.Test.YtijommlodgpphaaDoorCdE
namespace Go.Proofs.YtijommlodgpphaaDoor
open Go.RowKit Go.Shelf

/-- The numbers of an instruction are numbers of their kinds. -/
def I5.wf (i : I5) : Prop := (-9223372036854775808 ≤ i.op ∧ i.op < 9223372036854775808) ∧ (-9223372036854775808 ≤ i.a ∧ i.a < 9223372036854775808) ∧ (-9223372036854775808 ≤ i.b ∧ i.b < 9223372036854775808) ∧ (-9223372036854775808 ≤ i.c ∧ i.c < 9223372036854775808) ∧ 0 ≤ i.n ∧ i.n < 18446744073709551616

/-- Instructions where they lie. -/
structure InsAt (w : World) (v : Value) (L : List I5) : Prop where
  form : ∃ a cap, v = .slice a L.length cap ∧ ∀ k (hk : k < L.length), ∃ g off, a = some ⟨g, off, none⟩ ∧ w.cell? ⟨g, off + k * 5, none⟩ = some (.int .i64 (L[k]'hk).op) ∧ w.cell? ⟨g, off + k * 5 + 1, none⟩ = some (.int .i64 (L[k]'hk).a) ∧ w.cell? ⟨g, off + k * 5 + 2, none⟩ = some (.int .i64 (L[k]'hk).b) ∧ w.cell? ⟨g, off + k * 5 + 3, none⟩ = some (.int .i64 (L[k]'hk).c) ∧ w.cell? ⟨g, off + k * 5 + 4, none⟩ = some (.int .u64 (L[k]'hk).n)
  wf : ∀ i ∈ L, i.wf
  big : L.length * 40 ≤ 140737488355328

theorem InsAt.keeps {w w' : World} {v : Value} {L : List I5} (h : InsAt w v L) (k : Keeps (fun _ => False) w w') : InsAt w' v L := by
  obtain ⟨⟨a, cap, rfl, hc⟩, h2, h3⟩ := h
  refine ⟨⟨a, cap, rfl, fun j hj => ?_⟩, h2, h3⟩
  obtain ⟨g, off, rfl, c0, c1, c2, c3, c4⟩ := hc j hj
  have hg : g < w.heap.size := World.block_lt_of_cell? _ _ c0
  have hb := k.block g hg (fun f => f)
  have e : ∀ x, w'.cell? ⟨g, x, none⟩ = w.cell? ⟨g, x, none⟩ := fun x => by simp [World.cell?, hb]
  exact ⟨g, off, rfl, by rw [e, c0], by rw [e, c1], by rw [e, c2], by rw [e, c3], by rw [e, c4]⟩

def bytesL (i : I5) : List UInt8 := UInt8.ofNat i.op.toNat :: (numL i).flatMap fun n => sevL n.toNat
theorem flat10 : ∀ l : List Int, (∀ x ∈ l, 0 ≤ x ∧ x < 18446744073709551616) → (l.flatMap fun n => sevL n.toNat).length ≤ 10 * l.length
  | [], _ => by simp
  | x :: l, h => by
    have h1 := flat10 l fun y hy => h y (by simp [hy])
    have hx := h x (by simp)
    have h2 := sevL_le10 (n := x.toNat) (by omega)
    simp only [List.flatMap_cons, List.length_append, List.length_cons]
    omega

/-- What Bytes answers. -/
def BPost (L : List I5) (base : Nat) (e : Ending) (w' : World) : Prop := (L.all formedB = true → ∃ v', e = .returned (.tuple #[v', .int .i64 0]) ∧ Bts w' base v' (L.flatMap bytesL)) ∧ (L.all formedB = false → e = .returned (.tuple #[.slice none 0 0, .int .i64 180]))

set_option maxRecDepth 100000 in
set_option maxHeartbeats 2000000 in
theorem bytes_any (v : Value) (L : List I5) (w : World) (h : InsAt w v L) :
    Calls Tryd.prog 8 #[v] w fun e w' => BPost L w.heap.size e w' ∧ Keeps (fun _ => False) w w' := by
  obtain ⟨⟨av, cap, rfl, hc⟩, hwf, hbig⟩ := h
  go_enter Tryd.func8, Tryd.ntmps8
  go_wp2_with fail
  go_loopw [4, 11] (fun u m wr => ∃ k : Nat, m = .int .i64 k ∧ k ≤ L.length ∧ Hid ((∀ i ∈ L.take k, formedB i = true) ∧ Bts wr w.heap.size u ((L.take k).flatMap bytesL) ∧ ((L.take k).flatMap bytesL).length ≤ 31 * k ∧ Keeps (fun _ => False) w wr)) (fun _ m _ => L.length - (intOf m).toNat)
  case atStart => exact ⟨0, rfl, Nat.zero_le _, ⟨by simp, by simpa using Bts.nil w, by simp, Keeps.refl _ _⟩⟩
  case round =>
    obtain ⟨k, rfl, hkl, hh⟩ := hrel
    by_cases hlt : k < L.length
    · have hki : (k : Int) < L.length := by omega
      obtain ⟨g, off, rfl, c0, c1, c2, c3, c4⟩ := hc k hlt
      obtain ⟨hF, hB, hX, hK⟩ := hh.out
      have hg : g < w.heap.size := World.block_lt_of_cell? _ _ c0
      have hb := hK.block g hg (fun f => f)
      have e : ∀ x, wr.cell? ⟨g, x, none⟩ = w.cell? ⟨g, x, none⟩ := fun x => by simp [World.cell?, hb]
      rw [← e] at c0 c1 c2 c3 c4
      have FA := formed_any (L[k]'hlt)
      have NA := numbers_any (L[k]'hlt)
      generalize hi : L[k]'hlt = i at *
      obtain ⟨op, a, b, c, n⟩ := i
      dsimp only at c0 c1 c2 c3 c4
      have HW := hwf _ (hi ▸ List.getElem_mem hlt)
      clear hb e hF hg hc
      by_cases hf : formedB ⟨op, a, b, c, n⟩ = true
      · rw [hf] at FA
        obtain ⟨⟨h0, h1⟩, -, -, -, -⟩ := formed_facts hf
        dsimp only at h0 h1
        have hN := num3_bound hf HW.2.2.2.2.1 HW.2.2.2.2.2
        have hN3 := num3_length ⟨op, a, b, c, n⟩
        have hq := partsN_le h0 h1
        replace NA := NA hf
        have hT : (L.take (k + 1)).flatMap bytesL = (L.take k).flatMap bytesL ++ (UInt8.ofNat op.toNat :: ((num3 ⟨op, a, b, c, n⟩).take (partsN op)).flatMap fun n => sevL n.toNat) := by
          rw [List.take_succ_eq_append_getElem hlt, hi]
          simp [bytesL, numL]
        have hfk : ∀ i ∈ L.take (k + 1), formedB i = true := by
          intro i hx
          rw [List.take_succ_eq_append_getElem hlt, hi] at hx
          rcases List.mem_append.1 hx with hx | hx
          · exact hh.out.1 i hx
          · simp at hx; rw [hx]; exact hf
        generalize num3 ⟨op, a, b, c, n⟩ = N3 at *
        generalize hqq : partsN op = q at *
        generalize (L.take k).flatMap bytesL = X at *
        go_wp2_with fail
        refine (FA _).mono ?_
        rintro e w1 ⟨rfl, k1⟩
        have k01 := ((Keeps.refl (fun _ => False) wr).alloc _).trans k1
        have hB1 := hB.keeps k01 (fun _ _ f => f)
        obtain ⟨v1, w2, r1, r2, r3⟩ := hB1.push (UInt8.ofNat op.toNat) (by omega)
        rw [show ((UInt8.ofNat op.toNat).toNat : Int) = op by simp; omega] at r1
        have HR : Hid (_ = _) := r1
        have b1 : w1.heap[wr.heap.size]? = some (.cells #[.int .i64 op, .int .i64 a, .int .i64 b, .int .i64 c, .int .u64 n] 38 (0, 0)) := (k1.block _ (by simp) (fun f => f)).trans (MapKept.heap_alloc _ _).1
        have b2 : w2.heap[wr.heap.size]? = some (.cells #[.int .i64 op, .int .i64 a, .int .i64 b, .int .i64 c, .int .u64 n] 38 (0, 0)) := (r3.keeps.block _ (lt_of_block b1) (fun f => by have := (own_block hB.own f).1; omega)).trans b1
        have d0 : w1.cell? ⟨wr.heap.size, 0, none⟩ = some (.int .i64 op) := by rw [cell_of_block b1]; rfl
        have e0 : w2.cell? ⟨wr.heap.size, 0, none⟩ = some (.int .i64 op) := by rw [cell_of_block b2]; rfl
        have e1 : w2.cell? ⟨wr.heap.size, 1, none⟩ = some (.int .i64 a) := by rw [cell_of_block b2]; rfl
        have e2 : w2.cell? ⟨wr.heap.size, 2, none⟩ = some (.int .i64 b) := by rw [cell_of_block b2]; rfl
        have e3 : w2.cell? ⟨wr.heap.size, 3, none⟩ = some (.int .i64 c) := by rw [cell_of_block b2]; rfl
        have e4 : w2.cell? ⟨wr.heap.size, 4, none⟩ = some (.int .u64 n) := by rw [cell_of_block b2]; rfl
        have K2 := r3.kept (hK.trans k01) hB1
        have ob1 : ∀ g, v1.ownBlock = some g → g < w2.heap.size := fun g hg => (own_block r2.own hg).1
        clear c0 c1 c2 c3 c4 FA b1 b2 k1 k01 hB hB1 r1 r3 hK hh hi
        go_wp2_with (at_builtin; refine wpList_append_run rfl _ _ 22 rfl rfl rfl HR.out ?_)
        refine (NA _).mono ?_
        rintro e w3 ⟨p, rfl, hp0, hp1, k3⟩
        have B3 := r2.keeps k3 (fun _ _ f => f)
        have K3 := K2.trans k3
        have op3 : v1.ownBlock ≠ some p := fun hg => by have := ob1 p hg; omega
        clear NA HR d0 e0 e1 e2 e3 e4 r2 k3 K2 hp0 ob1
        go_wp2_with fail
        go_loopw [4, 27] (fun u m wr' => ∃ j : Nat, m = .int .i64 j ∧ j ≤ q ∧ Hid (Bts wr' w.heap.size u (X ++ [UInt8.ofNat op.toNat] ++ (N3.take j).flatMap fun n => sevL n.toNat) ∧ Keeps (fun _ => False) w wr' ∧ wr'.heap[p]? = some (.cells (u64s N3) 36 (0, 0)) ∧ u.ownBlock ≠ some p)) (fun _ m _ => q - (intOf m).toNat)
        case atStart => exact ⟨0, rfl, Nat.zero_le _, ⟨by simpa using B3, K3, hp1, op3⟩⟩
        case round =>
          obtain ⟨W3, hW3⟩ : ∃ W, W = wr := ⟨_, rfl⟩
          subst hW3
          obtain ⟨j, rfl, hjq, hg⟩ := hrel
          clear B3 K3 hp1 op3
          by_cases hjl : j < q
          · have hji : (j : Int) < q := by omega
            have hj3 : j < N3.length := by omega
            obtain ⟨q1, q2, q3, q4⟩ := hg.out
            obtain ⟨hx0, hx1⟩ := hN _ (List.getElem_mem hj3)
            obtain ⟨x, hx⟩ : ∃ x : Nat, N3[j]'hj3 = (x : Int) := ⟨(N3[j]'hj3).toNat, by omega⟩
            have fl := flat10 (N3.take j) fun y hy => hN y (List.mem_of_mem_take hy)
            have s10 := sevL_le10 (n := x) (by omega)
            have SV := sevens_any x (by omega) _ _ _ _ q1 (by simp only [List.length_append, List.length_singleton, List.length_take] at fl ⊢; omega)
            have cx := cell_of_block q3 j
            rw [u64s_get _ _ hj3, List.getElem?_eq_getElem hj3, hx] at cx
            simp only [Option.getD_some] at cx
            clear q1 q2 q3 q4 fl s10 hx0 hx1
            go_wp2_with (go_at_call 14; refine SV.mono ?_; rintro e w4 ⟨v4, rfl, B4, G4⟩)
            go_roundw
            · obtain ⟨q1, q2, q3, q4⟩ := hg.out
              refine ⟨j + 1, by simp, by omega, ⟨?_, G4.kept q2 q1, (G4.keeps.block p (lt_of_block q3) q4).trans q3, ?_⟩⟩
              · rw [List.take_succ_eq_append_getElem hj3, hx]
                simpa using B4
              · rcases G4.own with ho | ho
                · rw [ho]; exact q4
                · intro hp
                  have := ho p hp
                  have := lt_of_block q3
                  omega
            · simp [intOf]; omega
          · have hji : ¬ (j : Int) < q := by omega
            obtain rfl : j = q := by omega
            obtain ⟨q1, q2, q3, q4⟩ := hg.out
            have fl := flat10 (N3.take j) fun y hy => hN y (List.mem_of_mem_take hy)
            clear hg q3 q4
            go_wp2_with fail
            go_roundw
            · refine ⟨k + 1, by simp, by omega, ⟨hfk, by rw [hT]; simpa using q1, ?_, q2⟩⟩
              rw [hT]
              simp only [List.length_append, List.length_cons, List.length_take] at fl ⊢
              omega
            · simp [intOf]; omega
      · have hf' : formedB ⟨op, a, b, c, n⟩ = false := by simpa using hf
        rw [hf'] at FA
        have hall : L.all formedB = false := by
          rw [List.all_eq_false]
          exact ⟨_, List.getElem_mem hlt, by rw [hi]; exact hf⟩
        have k0 := hK.alloc (.cells #[.int .i64 op, .int .i64 a, .int .i64 b, .int .i64 c, .int .u64 n] 38)
        clear hh hi NA hf hf' hB
        go_wp2_with (go_at_call 12; refine (FA _).mono ?_; rintro e w1 ⟨rfl, k1⟩)
        go_ret2
        exact ⟨⟨fun h => (by simp [hall] at h), fun _ => rfl⟩, k0.trans k1⟩
    · have hki : ¬ (k : Int) < L.length := by omega
      obtain rfl : k = L.length := by omega
      obtain ⟨hF, hB, -, hK⟩ := hh.out
      rw [List.take_length] at hF hB
      have hall : L.all formedB = true := List.all_eq_true.2 hF
      clear hh hc
      go_wp2_with fail
      go_ret2
      exact ⟨⟨fun _ => ⟨_, rfl, hB⟩, fun h => (by simp [hall] at h)⟩, hK⟩
end Go.Proofs.YtijommlodgpphaaDoor
