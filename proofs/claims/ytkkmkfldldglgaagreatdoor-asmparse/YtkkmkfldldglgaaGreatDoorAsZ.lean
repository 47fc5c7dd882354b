
/- Walks of the document's Text and target (package parleyref09). No statement of the seat is proved here. -/
import Derived.Test.YtkkmkfldldglgaaGreatDoorAsY
namespace Go.Proofs.YtkkmkfldldglgaaGreatDoor
open Go.RowKit Go.Shelf

/-- A program's plain text. -/
def plainK (L : List I5) : Nat → List UInt8
  | 0 => []
  | k + 1 => plainK L k ++ (textL ((L[k]?).getD ⟨0, 0, 0, 0, 0⟩) ++ [10])
def plainL (L : List I5) : List UInt8 := plainK L L.length
theorem plainK_succ {L : List I5} {k : Nat} (hk : k < L.length) : plainK L (k + 1) = plainK L k ++ (textL (L[k]) ++ [10]) := by
  rw [plainK, List.getElem?_eq_getElem hk]; rfl
/-- What Text answers. -/
def TxPost (L : List I5) (e : Ending) : Prop := (L.all formedB = true → e = .returned (.tuple #[.string ⟨(plainL L).toArray⟩, .int .i64 0])) ∧ (L.all formedB = false → e = .returned (.tuple #[.string ⟨#[]⟩, .int .i64 180]))
theorem all_of_take {L : List I5} {k : Nat} (hk : k < L.length) (h : formedB (L[k]) = false) : L.all formedB = false := by
  rw [List.all_eq_false]
  exact ⟨L[k], List.getElem_mem hk, by rw [h]; simp⟩
theorem take_all {L : List I5} {k : Nat} (hk : k < L.length) (h0 : (L.take k).all formedB = true) (h : formedB (L[k]) = true) : (L.take (k + 1)).all formedB = true := by
  rw [List.take_succ_eq_append_getElem hk, List.all_append, h0]; simp [h]

set_option maxRecDepth 100000 in
set_option maxHeartbeats 4000000 in
theorem rtext_any (v : Value) (L : List I5) (hL : L.length ≤ 65536) (w : World) (h : InsAt w v L) : Calls Tryz.prog 18 #[v] w fun e w' => TxPost L e ∧ Keeps (fun _ => False) w w' := by
  have HI : Hid (∀ X, Keeps (fun _ => False) w X → InsAt X v L) := fun X k => h.keeps k
  have HW : Hid (∀ i ∈ L, i.wf) := h.wf
  have k0 := Keeps.refl (fun _ => False) w
  obtain ⟨⟨a0, c0, rfl, _⟩, -, -⟩ := h
  go_enter Tryz.func18, Tryz.ntmps18
  go_wp2_with fail
  go_loopw [4, 5] (fun u u2 wr => ∃ (k : Nat) (X : List UInt8), u = .string ⟨X.toArray⟩ ∧ u2 = .int .i64 k ∧ k ≤ L.length ∧ Keeps (fun _ => False) w wr ∧ Hid ((L.take k).all formedB = true ∧ X = plainK L k ∧ X.length ≤ 128 * k)) (fun _ u _ => L.length - (intOf u).toNat)
  case atStart => exact ⟨0, [], rfl, rfl, Nat.zero_le _, k0, ⟨by simp, rfl, by simp⟩⟩
  case round =>
    obtain ⟨k, X, rfl, rfl, hk, kr, hP⟩ := hrel
    by_cases hlt : k < L.length
    · obtain ⟨ga, off, cap, hv, x0, x1, x2, x3, x4⟩ := (HI.out wr kr).at k hlt
      simp only [Value.slice.injEq] at hv
      obtain ⟨rfl, -, rfl⟩ := hv
      have hki : (k : Int) < L.length := by omega
      have hw5 := HW.out (L[k]) (List.getElem_mem hlt)
      have HP : Hid (plainK L (k + 1) = plainK L k ++ (textL (L[k]) ++ [10])) := plainK_succ hlt
      have HA : Hid (formedB (L[k]) = false → L.all formedB = false) := all_of_take hlt
      have HT : Hid (formedB (L[k]) = true → (L.take (k + 1)).all formedB = true) := take_all hlt hP.out.1
      have RF := rformed_any (L[k])
      have hn0 := hw5.2.2.2.2.1
      have hn1 := hw5.2.2.2.2.2
      have RL := fun (hf : formedB (L[k]) = true) X => rLine_any (L[k]) hf hn0 hn1 X
      have TL := fun (hf : formedB (L[k]) = true) => text_len (i := L[k]) hf hn0 hn1
      have HC : Hid (∀ X, Keeps (fun _ => False) wr X → X.cell? ⟨ga, off + k * 5, none⟩ = some (.int .i64 (L[k]).op) ∧ X.cell? ⟨ga, off + k * 5 + 1, none⟩ = some (.int .i64 (L[k]).a) ∧ X.cell? ⟨ga, off + k * 5 + 2, none⟩ = some (.int .i64 (L[k]).b) ∧ X.cell? ⟨ga, off + k * 5 + 3, none⟩ = some (.int .i64 (L[k]).c) ∧ X.cell? ⟨ga, off + k * 5 + 4, none⟩ = some (.int .u64 (L[k]).n)) := fun X kX => by
        obtain ⟨g', o', c', hv, q⟩ := (HI.out X (kr.trans kX)).at k hlt
        simp only [Value.slice.injEq, Option.some.injEq, Addr.mk.injEq, and_true, true_and] at hv
        obtain ⟨⟨rfl, rfl⟩, -⟩ := hv
        exact q
      generalize L[k]'hlt = i at *
      obtain ⟨op, a, b, c, N⟩ := i
      dsimp only at x0 x1 x2 x3 x4 hn0 hn1 HC RF RL
      obtain ⟨-, hX, hXl⟩ := hP.out
      cases hform : formedB ⟨op, a, b, c, N⟩
      · rw [hform] at RF
        have hF := HA.out hform
        clear RL TL HC HT HP hX
        go_wp2_with fail
        refine (RF _).mono ?_
        rintro e X1 ⟨rfl, k1⟩
        have kk := kr.trans k1
        clear RF
        go_wp2_with fail
        go_ret2
        exact ⟨⟨fun hq => (by rw [hF] at hq; cases hq), fun _ => rfl⟩, kk⟩
      · rw [hform] at RF
        have hT := HT.out hform
        have RL1 := RL hform
        have tl := TL hform
        have hnx : Hid (X ++ textL ⟨op, a, b, c, N⟩ ++ [10] = plainK L (k + 1)) := by unfold Hid; rw [HP.out, hX]; simp
        generalize textL ⟨op, a, b, c, N⟩ = T at *
        clear RL TL HA hX HP
        go_wp2_with fail
        refine (RF _).mono ?_
        rintro e X1 ⟨rfl, k1⟩
        have kk := kr.trans k1
        obtain ⟨y0, y1, y2, y3, y4⟩ := HC.out X1 k1
        have s1 := str_app X T
        have s2 := str_app (X ++ T) [10]
        have t1 : ¬ 9223372036854775807 < X.length + T.length := by omega
        have t2 : ¬ 9223372036854775807 < (X ++ T).length + 1 := by simp only [List.length_append]; omega
        have hfl : (X ++ T ++ [10]).length ≤ 128 * (k + 1) := by simp only [List.length_append, List.length_cons, List.length_nil]; omega
        clear RF HC
        go_wp2_with fail
        refine (RL1 _).mono ?_
        rintro e X2 ⟨rfl, k2⟩
        have kk2 := kk.trans k2
        clear RL1
        go_wp2_with fail
        go_roundw
        · exact ⟨k + 1, X ++ T ++ [10], by first | rfl | simp, rfl, by omega, kk2, ⟨hT, hnx.out, hfl⟩⟩
        · simp [intOf]; omega
    · obtain rfl : k = L.length := by omega
      obtain ⟨h1, h2, h3⟩ := hP.out
      rw [List.take_length] at h1
      have hq : Hid (X = plainL L) := h2
      clear HI h2
      go_wp2_with fail
      go_ret2
      exact ⟨⟨fun _ => by rw [← hq.out]; rfl, fun hq => (by rw [h1] at hq; cases hq)⟩, kr⟩

/-- Is a place a target? -/
def tgtAt (L : List I5) (j : Nat) : Bool := L.any fun i => tgtB i.op && decide (i.n = (j : Int))
theorem tgt_range {op : Int} (h : tgtB op = true) : 1 ≤ op ∧ op ≤ 17 := by
  by_cases h' : 1 ≤ op ∧ op ≤ 17
  · exact h'
  · exfalso
    by_cases h0 : op ≤ 0
    · have : op.toNat = 0 := by omega
      simp [tgtB, this] at h
    · have : 18 ≤ op.toNat := by omega
      simp [tgtB, List.getElem?_eq_none, this] at h
theorem mark_tgt (L : List I5) (n j : Nat) (hj : j ≤ n) : markB L n j = tgtAt L j := by
  unfold markB tgtAt
  congr 1
  funext i
  unfold aimB
  cases ht : tgtB i.op
  · simp
  · have := tgt_range ht
    by_cases he : i.n = (j : Int)
    · have : i.n ≤ (n : Int) := by omega
      simp_all
    · simp [he]
set_option maxRecDepth 100000 in
set_option maxHeartbeats 4000000 in
theorem rtarget_any (v : Value) (L : List I5) (hL : L.length ≤ 65536) (j : Nat) (hj : j ≤ 65536) (w : World) (h : InsAt w v L) : Calls Tryz.prog 49 #[v, .int .i64 (j : Int)] w fun e w' => e = .returned (.bool (tgtAt L j)) ∧ w' = w := by
  have HI : Hid (InsAt w v L) := h
  obtain ⟨⟨a0, c0, rfl, _⟩, -, -⟩ := h
  have gw : IntKind.u64.wrap (j : Int) = j := by simp [IntKind.wrap, IntKind.signed, IntKind.bits]; omega
  go_enter Tryz.func49, Tryz.ntmps49
  go_wp2_with fail
  go_loopw [5] (fun u wr => ∃ (k : Nat), u = .int .i64 k ∧ k ≤ L.length ∧ wr = w ∧ Hid ((L.take k).any (fun i => tgtB i.op && decide (i.n = (j : Int))) = false)) (fun u _ => L.length - (intOf u).toNat)
  case atStart => exact ⟨0, rfl, Nat.zero_le _, rfl, by show List.any _ _ = false; simp⟩
  case round =>
    obtain ⟨k, rfl, hk, rfl, hP⟩ := hrel
    by_cases hlt : k < L.length
    · obtain ⟨ga, off, cap, hv, x0, x1, x2, x3, x4⟩ := HI.out.at k hlt
      simp only [Value.slice.injEq] at hv
      obtain ⟨rfl, -, rfl⟩ := hv
      have hki : (k : Int) < L.length := by omega
      have HY : Hid ((tgtB (L[k]).op && decide ((L[k]).n = (j : Int))) = true → tgtAt L j = true) := fun hq => by
        unfold tgtAt
        rw [List.any_eq_true]
        exact ⟨L[k], List.getElem_mem hlt, hq⟩
      have HN : Hid ((tgtB (L[k]).op && decide ((L[k]).n = (j : Int))) = false → (L.take (k + 1)).any (fun i => tgtB i.op && decide (i.n = (j : Int))) = false) := fun hq => by
        rw [List.take_succ_eq_append_getElem hlt, List.any_append, hP.out]
        simp only [List.any_cons, List.any_nil, hq, Bool.or_false]
      have FM := rform_any (L[k]).op
      generalize L[k]'hlt = i at *
      obtain ⟨op, a, b, c, N⟩ := i
      dsimp only at x0 x1 x2 x3 x4 FM HY HN
      cases ht : tgtB op
      · rw [ht] at FM
        have hn := HN.out (by rw [ht]; rfl)
        clear HY HN
        go_wp2_with fail
        refine (FM _).mono ?_
        rintro e w1 ⟨rfl, rfl⟩
        clear FM
        go_wp2_with fail
        go_roundw
        · exact ⟨k + 1, by simp, by omega, by first | rfl | trivial, hn⟩
        · simp [intOf]; omega
      · rw [ht] at FM
        by_cases hN : N = (j : Int)
        · have hy := HY.out (by rw [ht]; simp [hN])
          subst hN
          clear HY HN
          go_wp2_with fail
          refine (FM _).mono ?_
          rintro e w1 ⟨rfl, rfl⟩
          clear FM
          go_wp2_with fail
          go_ret
          exact ⟨by rw [hy]; rfl, rfl⟩
        · have hn := HN.out (by rw [ht]; simp [hN])
          have hN' : (N == (j : Int)) = false := by simpa using hN
          clear HY HN
          go_wp2_with fail
          refine (FM _).mono ?_
          rintro e w1 ⟨rfl, rfl⟩
          clear FM
          go_wp2_with fail
          go_roundw
          · exact ⟨k + 1, by simp, by omega, by first | rfl | trivial, hn⟩
          · simp [intOf]; omega
    · obtain rfl : k = L.length := by omega
      have hq : Hid (tgtAt L j = false) := by
        have := hP.out
        rw [List.take_length] at this
        exact this
      clear HI
      go_wp2_with fail
      go_ret
      exact ⟨by rw [hq.out]; rfl, rfl⟩
end Go.Proofs.YtkkmkfldldglgaaGreatDoor
