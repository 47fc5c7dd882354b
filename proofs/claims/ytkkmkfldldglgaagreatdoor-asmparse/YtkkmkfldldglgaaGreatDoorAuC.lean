
/- Walks of the document's Same, CopyCode, KeptCode; the law's walk over a program. No statement of the seat is proved here. -/
import Derived.Test.YtkkmkfldldglgaaGreatDoorAuB
namespace Go.Proofs.YtkkmkfldldglgaaGreatDoor
open Go.RowKit Go.Shelf

set_option maxRecDepth 100000 in
set_option maxHeartbeats 4000000 in
theorem rsame_any (va vb : Value) (L : List I5) (hL : L.length ≤ 1048576) (w : World) (ha : InsAt w va L) (hb : InsAt w vb L) : Calls Tryz.prog 13 #[va, vb] w fun e w' => e = .returned (.bool true) ∧ Keeps (fun _ => False) w w' := by
  have HA : Hid (∀ X, Keeps (fun _ => False) w X → InsAt X va L) := fun X k => ha.keeps k
  have HB : Hid (∀ X, Keeps (fun _ => False) w X → InsAt X vb L) := fun X k => hb.keeps k
  have k0 := Keeps.refl (fun _ => False) w
  obtain ⟨⟨a0, c0, rfl, _⟩, -, -⟩ := ha
  obtain ⟨⟨a1, c1, rfl, _⟩, -, -⟩ := hb
  go_enter Tryz.func13, Tryz.ntmps13
  go_wp2_with fail
  go_loopw [5] (fun u wr => ∃ (k : Nat), u = .int .i64 k ∧ k ≤ L.length ∧ Keeps (fun _ => False) w wr) (fun u _ => L.length - (intOf u).toNat)
  case atStart => exact ⟨0, rfl, Nat.zero_le _, k0⟩
  case round =>
    obtain ⟨k, rfl, hk, kr⟩ := hrel
    by_cases hlt : k < L.length
    · obtain ⟨ga, off, cap, hv, x0, x1, x2, x3, x4⟩ := (HA.out wr kr).at k hlt
      simp only [Value.slice.injEq] at hv
      obtain ⟨rfl, -, rfl⟩ := hv
      obtain ⟨gb, offb, capb, hv, y0, y1, y2, y3, y4⟩ := (HB.out wr kr).at k hlt
      simp only [Value.slice.injEq] at hv
      obtain ⟨rfl, -, rfl⟩ := hv
      have hki : (k : Int) < L.length := by omega
      generalize L[k]'hlt = i at *
      obtain ⟨op, a, b, c, N⟩ := i
      dsimp only at x0 x1 x2 x3 x4 y0 y1 y2 y3 y4
      go_wp2_with fail
      go_quiet (fail)
      go_wp2_with fail
      go_roundw
      · exact ⟨k + 1, by simp, by omega, kr.drewN _⟩
      · simp [intOf]; omega
    · obtain rfl : k = L.length := by omega
      go_wp2_with fail
      go_ret
      exact ⟨rfl, kr⟩

def marksC : List I5 := [⟨99, 0, 0, 0, 0⟩, ⟨98, 0, 0, 0, 0⟩]
theorem InsAt.prefix {w : World} {a : Option Addr} {n cap : Nat} {L M : List I5} (h : InsAt w (.slice a n cap) (L ++ M)) : InsAt w (.slice a L.length cap) L := by
  obtain ⟨⟨a', c', hv, hc⟩, h2, h3⟩ := h
  simp only [Value.slice.injEq] at hv
  obtain ⟨rfl, rfl, rfl⟩ := hv
  refine ⟨⟨a, cap, rfl, fun k hk => ?_⟩, fun i hi => h2 i (List.mem_append_left _ hi), ?_⟩
  · obtain ⟨g, off, e, q⟩ := hc k (by simp; omega)
    rw [List.getElem_append_left hk] at q
    exact ⟨g, off, e, q⟩
  · simp at h3; omega
set_option maxRecDepth 100000 in
set_option maxHeartbeats 4000000 in
theorem rcopy_any (v : Value) (L : List I5) (hL : L.length ≤ 1048576) (w : World) (h : InsAt w v L) : Calls Tryz.prog 15 #[v] w fun e w' => (∃ g cap, e = .returned (.slice (some ⟨g, 0, none⟩) L.length cap) ∧ InsAt w' (.slice (some ⟨g, 0, none⟩) (L.length + 2) cap) (L ++ marksC) ∧ L.length + 2 ≤ cap ∧ w.heap.size ≤ g) ∧ Keeps (fun _ => False) w w' := by
  have hwf := h.wf
  obtain ⟨v1, w1, r1, i1, g1⟩ := (Irs.nil w).app v L h (by simp; omega)
  rw [List.nil_append] at i1
  have k1 := Irs.kept g1 (Keeps.refl (fun _ => False) w) (Irs.nil w)
  have ka := (Keeps.refl (fun _ => False) w1).alloc (.cells #[.int .i64 99, .int .i64 0, .int .i64 0, .int .i64 0, .int .u64 0, .int .i64 98, .int .i64 0, .int .i64 0, .int .i64 0, .int .u64 0] 37)
  have b0 := (MapKept.heap_alloc w1 (.cells #[.int .i64 99, .int .i64 0, .int .i64 0, .int .i64 0, .int .u64 0, .int .i64 98, .int .i64 0, .int .i64 0, .int .i64 0, .int .u64 0] 37)).1
  have IB : InsAt (w1.alloc (.cells #[.int .i64 99, .int .i64 0, .int .i64 0, .int .i64 0, .int .u64 0, .int .i64 98, .int .i64 0, .int .i64 0, .int .i64 0, .int .u64 0] 37)) (.slice (some ⟨w1.heap.size, 0, none⟩) 2 2) marksC := by
    refine ⟨⟨_, 2, rfl, fun k hk => ⟨_, 0, rfl, ?_⟩⟩, by intro i hi; simp [marksC] at hi; rcases hi with rfl | rfl <;> (unfold I5.wf; decide), by simp [marksC]⟩
    rcases (by simp [marksC] at hk; omega : k = 0 ∨ k = 1) with rfl | rfl
    · refine ⟨?_, ?_, ?_, ?_, ?_⟩ <;> (rw [cell_of_block b0]; rfl)
    · refine ⟨?_, ?_, ?_, ?_, ?_⟩ <;> (rw [cell_of_block b0]; rfl)
  have i1' := i1.keeps ka (fun _ _ f => f)
  obtain ⟨v2, w2, r2, i2, g2⟩ := i1'.app _ marksC IB (by simp [marksC]; omega)
  have k2 := Irs.kept g2 (k1.trans ka) i1'
  have hin := i2.insAt (fun i hi => by
    rcases List.mem_append.1 hi with hi | hi
    · exact hwf i hi
    · exact IB.wf i hi) (by simp [marksC]; omega)
  have hl2 : (L ++ marksC).length = L.length + 2 := by simp [marksC]
  obtain ⟨g, cap, rfl, hcap, hg⟩ : ∃ g cap, v2 = .slice (some ⟨g, 0, none⟩) (L.length + 2) cap ∧ L.length + 2 ≤ cap ∧ w.heap.size ≤ g := by
    rcases i2.own.2 with ⟨rfl, h2⟩ | ⟨g, cap, cur, rfl, q1, q2, q3, q4, q5, q6⟩
    · simp [marksC] at h2
    · exact ⟨g, cap, by rw [hl2], by rw [hl2] at q3; exact q3, q1⟩
  obtain ⟨⟨a0, c0, rfl, _⟩, -, -⟩ := h
  have HA : Hid _ := r1
  have HB : Hid _ := r2
  clear r1 r2
  have hc1 : (L.length : Int) ≤ cap := by omega
  clear i1 g1 b0 IB i1' i2 g2 ka k1 hwf
  go_enter Tryz.func15, Tryz.ntmps15
  go_wp2_with (at_builtin; first | (refine wpList_append_run rfl _ _ 23 rfl rfl rfl HA.out ?_; clear HA) | (refine wpList_append_run rfl _ _ 23 rfl rfl rfl HB.out ?_; clear HB))
  go_ret
  exact ⟨⟨g, cap, rfl, hin, hcap, hg⟩, k2⟩
set_option maxRecDepth 100000 in
set_option maxHeartbeats 4000000 in
theorem rkept_any (v : Value) (L : List I5) (hL : L.length ≤ 1048576) (g cap : Nat) (hcap : L.length + 2 ≤ cap) (w : World) (h : InsAt w v L) (hc : InsAt w (.slice (some ⟨g, 0, none⟩) (L.length + 2) cap) (L ++ marksC)) :
    Calls Tryz.prog 20 #[.slice (some ⟨g, 0, none⟩) L.length cap, v] w fun e w' => e = .returned (.bool true) ∧ Keeps (fun _ => False) w w' := by
  have SM := rsame_any _ v L hL w hc.prefix h
  have HC : Hid (∀ X, Keeps (fun _ => False) w X → X.cell? ⟨g, L.length * 5, none⟩ = some (.int .i64 99) ∧ X.cell? ⟨g, (L.length + 1) * 5, none⟩ = some (.int .i64 98)) := fun X kX => by
    have hX := hc.keeps kX
    obtain ⟨g', o', c', hv, q, _⟩ := hX.at L.length (by simp [marksC])
    obtain ⟨g'', o'', c'', hv', q', _⟩ := hX.at (L.length + 1) (by simp [marksC])
    simp only [Value.slice.injEq, Option.some.injEq, Addr.mk.injEq, and_true] at hv hv'
    obtain ⟨⟨rfl, rfl⟩, -, -⟩ := hv
    obtain ⟨⟨rfl, rfl⟩, -, -⟩ := hv'
    simp [marksC] at q q'
    exact ⟨q, q'⟩
  obtain ⟨⟨a0, c0, rfl, _⟩, -, -⟩ := h
  have hc1 : (L.length : Int) + 2 ≤ cap := by omega
  clear hc
  go_enter Tryz.func20, Tryz.ntmps20
  go_wp2_with fail
  refine SM.mono ?_
  rintro e w1 ⟨rfl, k1⟩
  obtain ⟨q1, q2⟩ := HC.out w1 k1
  clear SM HC
  go_wp2_with fail
  go_ret
  exact ⟨rfl, k1⟩
end Go.Proofs.YtkkmkfldldglgaaGreatDoor
