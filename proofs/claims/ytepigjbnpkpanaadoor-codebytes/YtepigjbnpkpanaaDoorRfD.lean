
/- Walks of the document's Named (package parleyref08), and CodeInfo's walk. No statement of the seat is proved here. -/
import Derived.Test.YtepigjbnpkpanaaDoorRfC
namespace Go.Proofs.YtepigjbnpkpanaaDoor
open Go.RowKit Go.Shelf

set_option maxRecDepth 100000 in
set_option maxHeartbeats 2000000 in
theorem rnamed_any (l : List UInt8) (w : World) : Calls Tryd.prog 12 #[.string ⟨l.toArray⟩] w fun e w' => NPost l e ∧ Keeps (fun _ => False) w w' := by
  go_enter Tryd.func12, Tryd.ntmps12
  go_wp2_with fail
  go_loopw [4] (fun v wr => ∃ k : Nat, v = .int .i64 k ∧ 1 ≤ k ∧ k ≤ 18 ∧ Hid (∀ j : Nat, 1 ≤ j → j < k → (nms[j]?).getD [] ≠ l) ∧ Keeps (fun _ => False) w wr) (fun v _ => 18 - (intOf v).toNat)
  case atStart => exact ⟨1, rfl, Nat.le_refl _, by omega, fun j h1 h2 => by omega, Keeps.refl _ _⟩
  case round =>
    obtain ⟨k, rfl, hk1, hk2, hh, kw⟩ := hrel
    by_cases hlt : k ≤ 17
    · have hki : (k : Int) ≤ 17 := by omega
      have K := rname_yes k hlt wr
      unfold nm at K
      by_cases he : (nms[k]?).getD [] = l
      · have hb : (ByteArray.toList ⟨((nms[k]?).getD []).toArray⟩ == l) = true := by rw [he]; simp
        generalize ((nms[k]?).getD []).toArray = q at *
        go_wp2_with (go_at_call 14; refine K.mono ?_; rintro e w' ⟨rfl, rfl⟩)
        go_ret2
        exact ⟨.inl ⟨k, hk1, hlt, he, rfl⟩, kw.alloc _⟩
      · have hb : (ByteArray.toList ⟨((nms[k]?).getD []).toArray⟩ == l) = false := by simpa using he
        generalize ((nms[k]?).getD []).toArray = q at *
        go_wp2_with (go_at_call 14; refine K.mono ?_; rintro e w' ⟨rfl, rfl⟩)
        go_roundw
        · refine ⟨k + 1, by simp, by omega, by omega, fun j h1 h2 => ?_, kw.alloc _⟩
          by_cases hj : j = k
          · subst hj; exact he
          · exact hh.out j h1 (by omega)
        · simp [intOf]; omega
    · obtain rfl : k = 18 := by omega
      go_wp2_with fail
      go_ret2
      exact ⟨.inr ⟨fun j h1 h2 => hh.out j h1 (by omega), rfl⟩, kw⟩

theorem npost_eq {l : List UInt8} {e : Ending} (h : NPost l e) : e = .returned (.tuple #[.int .i64 (((namedN l).getD 0 : Nat) : Int), .bool (namedN l).isSome]) := by
  rcases h with ⟨k, h1, h2, h3, rfl⟩ | ⟨h1, rfl⟩
  · rw [namedN_yes h1 h2 h3]; rfl
  · rw [namedN_no h1]; rfl

set_option maxRecDepth 100000 in
set_option maxHeartbeats 4000000 in
theorem info_law (op : Int) (l : List UInt8) (w : World) (hw : Gl w) : Calls Tryd.prog 3 #[.int .i64 op, .string ⟨l.toArray⟩] w fun e w' => e = .returned (.bool true) ∧ Keeps (fun _ => False) w w' := by
  have NA := fun w hw => (named_any l w hw).mono (fun e w' ⟨h1, h2⟩ => (⟨npost_eq h1, h2⟩ : _ ∧ _))
  have RN := fun w => (rnamed_any l w).mono (fun e w' ⟨h1, h2⟩ => (⟨npost_eq h1, h2⟩ : _ ∧ _))
  generalize (((namedN l).getD 0 : Nat) : Int) = z at *
  generalize (namedN l).isSome = q at *
  have hzz : (z == z) = true := by simp
  have hqq : (q == q) = true := by simp
  by_cases ho : 1 ≤ op ∧ op ≤ 17
  · obtain ⟨h0, h1⟩ := ho
    obtain ⟨k, rfl⟩ : ∃ k : Nat, op = k := ⟨op.toNat, by omega⟩
    have IY := info_yes k h0 h1
    have RY := rinfo_yes k h0 h1
    have NY := fun w hw => name_yes k h0 h1 w hw
    have RNM := rname_yes k (by omega)
    have NB : ∀ w, Nms w → Calls Tryd.prog 11 #[.string (nm k)] w fun e w' => e = .returned (.tuple #[.int .i64 k, .bool true]) ∧ w' = w := fun w hw => by
      unfold nm
      refine (named_any _ w hw).mono fun e w' ⟨a, b⟩ => ⟨?_, b⟩
      have := npost_eq a
      rw [namedN_yes (by omega) (by omega) rfl] at this
      exact this
    rw [show ((k : Int)).toNat = k by simp] at NY
    generalize nm k = s at *
    generalize regsN k = r at *
    generalize numB k = nb at *
    generalize tgtB k = tb at *
    generalize outB k = ob at *
    generalize insB k = ib at *
    go_enter Tryd.func3, Tryd.ntmps3
    go_wp2_with fail
    refine (IY _).mono ?_
    rintro e w1 ⟨rfl, k1⟩
    have kk1 := k1.alloc (.cells #[.int .i64 r, .bool nb, .bool tb, .bool ob, .bool ib] 24)
    have b1 := (MapKept.heap_alloc w1 (.cells #[.int .i64 r, .bool nb, .bool tb, .bool ob, .bool ib] 24)).1
    go_wp2_with fail
    refine (RY _).mono ?_
    rintro e w2 ⟨rfl, k2⟩
    have kk2 := (kk1.trans k2).alloc (.cells #[.int .i64 r, .bool nb, .bool tb, .bool ob, .bool ib] 24)
    have b2 := (k2.block _ (lt_of_block b1) (fun f => f)).trans b1
    have g2 := hw.keeps kk2
    have NA2 := NA _ g2.nms
    clear IY RY
    go_wp2_with fail
    refine NA2.mono ?_
    rintro e w' ⟨rfl, rfl⟩
    go_wp2_with fail
    refine (RN _).mono ?_
    rintro e w3 ⟨rfl, k3⟩
    have b3 := ((k3.block _ (by simp; have := lt_of_block b2; omega) (fun f => f)).trans (((MapKept.heap_alloc _ _).2 _ (lt_of_block b2)).trans b2))
    have d3 := (k3.block w2.heap.size (by simp) (fun f => f)).trans (MapKept.heap_alloc _ _).1
    have kk3 := kk2.trans k3
    have g3 := hw.keeps kk3
    have NY3 := NY _ g3.nms
    have NB3 := NB _ g3.nms
    have g4 := hw.keeps (kk3.alloc (.cells namesA 9))
    have W4 := works_any _ g4
    obtain ⟨c0, c1, c2, c3, c4⟩ := cells5 b3
    obtain ⟨d0, d1, d2, d3, d4⟩ := cells5 d3
    clear NA NB NY NA2 RN b1 b2 kk1 k1 k2 k3 g2
    go_wp2_with fail
    refine NY3.mono ?_
    rintro e w' ⟨rfl, rfl⟩
    go_wp2_with fail
    refine NB3.mono ?_
    rintro e w' ⟨rfl, rfl⟩
    go_wp2_with (first | (go_at_call 13; refine NY3.mono ?_; rintro e w' ⟨rfl, rfl⟩) | (go_at_call 14; refine (RNM _).mono ?_; rintro e w' ⟨rfl, rfl⟩) | (go_at_call 15; refine W4.mono ?_; rintro e w5 ⟨rfl, k5⟩))
    go_ret
    exact ⟨rfl, (kk3.alloc _).trans k5⟩
  · have h : op < 1 ∨ 17 < op := by omega
    have IY := info_no op h
    have RY := rinfo_no op h
    have NY := fun (w : World) (_ : Nms w) => name_no op h w
    have RNM : ∀ w, Calls Tryd.prog 14 #[.int .i64 op] w fun e w' => e = .returned (.string ⟨#[]⟩) ∧ w' = w.alloc (.cells namesA 9) := fun w => by
      by_cases h0 : op = 0
      · subst h0; exact rname_yes 0 (by decide) w
      · exact rname_no op (by omega) w
    have NB : ∀ w, Nms w → Calls Tryd.prog 11 #[.string ⟨#[]⟩] w fun e w' => e = .returned (.tuple #[.int .i64 0, .bool false]) ∧ w' = w := fun w hw => by
      refine (named_any [] w hw).mono fun e w' ⟨a, b⟩ => ⟨?_, b⟩
      have := npost_eq a
      rw [show namedN [] = none by decide] at this
      exact this
    go_enter Tryd.func3, Tryd.ntmps3
    go_wp2_with fail
    refine (IY _).mono ?_
    rintro e w1 ⟨rfl, k1⟩
    have kk1 := k1.alloc (.cells #[.int .i64 0, .bool false, .bool false, .bool false, .bool false] 24)
    have b1 := (MapKept.heap_alloc w1 (.cells #[.int .i64 0, .bool false, .bool false, .bool false, .bool false] 24)).1
    go_wp2_with fail
    refine (RY _).mono ?_
    rintro e w2 ⟨rfl, k2⟩
    have kk2 := (kk1.trans k2).alloc (.cells #[.int .i64 0, .bool false, .bool false, .bool false, .bool false] 24)
    have b2 := (k2.block _ (lt_of_block b1) (fun f => f)).trans b1
    have g2 := hw.keeps kk2
    have NA2 := NA _ g2.nms
    clear IY RY
    go_wp2_with fail
    refine NA2.mono ?_
    rintro e w' ⟨rfl, rfl⟩
    go_wp2_with fail
    refine (RN _).mono ?_
    rintro e w3 ⟨rfl, k3⟩
    have b3 := ((k3.block _ (by simp; have := lt_of_block b2; omega) (fun f => f)).trans (((MapKept.heap_alloc _ _).2 _ (lt_of_block b2)).trans b2))
    have d3 := (k3.block w2.heap.size (by simp) (fun f => f)).trans (MapKept.heap_alloc _ _).1
    have kk3 := kk2.trans k3
    have g3 := hw.keeps kk3
    have NY3 := NY _ g3.nms
    have NB3 := NB _ g3.nms
    have g4 := hw.keeps (kk3.alloc (.cells namesA 9))
    have W4 := works_any _ g4
    obtain ⟨c0, c1, c2, c3, c4⟩ := cells5 b3
    obtain ⟨d0, d1, d2, d3, d4⟩ := cells5 d3
    clear NA NB NY NA2 RN b1 b2 kk1 k1 k2 k3 g2
    go_wp2_with fail
    refine NY3.mono ?_
    rintro e w' ⟨rfl, rfl⟩
    go_wp2_with fail
    refine NB3.mono ?_
    rintro e w' ⟨rfl, rfl⟩
    go_wp2_with (first | (go_at_call 13; refine NY3.mono ?_; rintro e w' ⟨rfl, rfl⟩) | (go_at_call 14; refine (RNM _).mono ?_; rintro e w' ⟨rfl, rfl⟩) | (go_at_call 15; refine W4.mono ?_; rintro e w5 ⟨rfl, k5⟩))
    go_ret
    exact ⟨rfl, (kk3.alloc _).trans k5⟩
end Go.Proofs.YtepigjbnpkpanaaDoor
