/-
  Walks of the law's place, and of the document's own Sum, SameWords and SameCells. No statement of the seat is proved here.
-/
import Derived.Test.YtmffkcbdgpaieaaPlayA
namespace Go.Proofs.Ytmffkcbdgpaieaa
open Go.RowKit

/-- A number's remainder by 3, from 0 on. -/
def placeOf (n : Int) : Nat := (n % 3).toNat
theorem placeOf_lt (n : Int) : placeOf n < 3 := by unfold placeOf; omega

theorem tmod3 (n : Int) : n.tmod 3 = if 0 ≤ n then n % 3 else -((-n) % 3) := by
  split
  · rw [Int.tmod_eq_emod_of_nonneg (by assumption)]
  · have h := Int.neg_tmod (-n) 3
    rw [Int.neg_neg] at h
    rw [h, Int.tmod_eq_emod_of_nonneg (by omega)]
theorem place_neg (n : Int) (h : n.tmod 3 < 0) : wrap64 (n.tmod 3 + 3) = (placeOf n : Int) := by
  have e : n.tmod 3 + 3 = (placeOf n : Int) := by
    unfold placeOf
    rw [tmod3] at h ⊢
    split at h <;> (try rw [if_neg (by assumption)]) <;> omega
  rw [e]
  have := placeOf_lt n
  unfold wrap64
  omega
theorem place_pos (n : Int) (h : 0 ≤ n.tmod 3) : n.tmod 3 = (placeOf n : Int) := by
  unfold placeOf
  rw [tmod3] at h ⊢
  split at h <;> (first | rw [if_neg (by assumption)] | rw [if_pos (by assumption)]) <;> omega

set_option maxHeartbeats 400000 in
theorem place_any (n : Int) (w : World) : Calls Try.prog 15 #[.int .i64 n] w fun e w' => e = .returned (.int .i64 (placeOf n)) ∧ w' = w := by
  by_cases h : n.tmod 3 < 0
  · go_enter Try.func15, Try.ntmps15
    go_wp2
    go_ret
    exact ⟨congrArg (fun x => Ending.returned (.int .i64 x)) (place_neg n h), rfl⟩
  · go_enter Try.func15, Try.ntmps15
    go_wp2
    go_ret
    exact ⟨congrArg (fun x => Ending.returned (.int .i64 x)) (place_pos n h), rfl⟩

set_option maxHeartbeats 400000 in
theorem rsum_nil (w : World) : Calls Try.prog 51 #[.pointer none] w fun e w' => e = .returned (.int .u64 0) ∧ w' = w := by
  go_enter Try.func51, Try.ntmps51
  go_wp2
  go_ret
  exact ⟨rfl, rfl⟩

set_option maxHeartbeats 400000 in
theorem rsum_at (b c cap : Nat) (rest : List Value) (ws : List Int) (n : Int) (w : World) (h : RefAt w b c cap rest ws n) (hwf : Wf ws) :
    Calls Try.prog 51 #[.pointer (some ⟨b, 0, none⟩)] w fun e w' => e = .returned (.int .u64 (sumTo ws ws.length)) ∧ w' = w := by
  have c0 := h.cell0
  have hp := h.pos
  have hm := h.le
  go_enter Try.func51, Try.ntmps51
  go_wp2_with fail
  go_loop [3, 4, 5] (fun su i q => ∃ k : Nat, k ≤ ws.length ∧ i = .int .i64 k ∧ su = .int .u64 (sumTo ws k)) (fun _ i _ => ws.length - (intOf i).toNat)
  case atStart => exact ⟨0, Nat.zero_le _, rfl, rfl⟩
  case round =>
    obtain ⟨k, hk, rfl, rfl⟩ := hrel
    by_cases hlt : k < ws.length
    · have hw := h.wcell k hlt
      have hy := (hwf.get k).1
      have HS : Hid (sumTo ws (k + 1) = mixTo (sumTo ws k) (ws[k]?.getD 0) 8) := rfl
      generalize ws[k]?.getD 0 = y at hw hy HS
      generalize sumTo ws k = s at HS ⊢
      go_wp2
      go_loop [3, 5] (fun su i => ∃ j : Nat, j ≤ 8 ∧ i = .int .i64 j ∧ su = .int .u64 (mixTo s y j)) (fun _ i => 8 - (intOf i).toNat)
      case atStart => exact ⟨0, by omega, rfl, rfl⟩
      case round =>
        obtain ⟨j, hj, rfl, rfl⟩ := hrel
        by_cases hlt8 : j < 8
        · have hyj := div_nonneg' y hy j
          have HM : Hid (mixTo s y (j + 1) = mix (mixTo s y j) (y / 256 ^ j)) := rfl
          generalize mixTo s y j = t at HM ⊢
          go_wp2
          go_round
          case rel => 
            refine ⟨j + 1, by omega, by go_num, ?_⟩
            rw [HM.out, show (256 : Int) ^ j = 2 ^ (8 * j) from by rw [Nat.mul_comm, show (256 : Int) = 2 ^ 8 from rfl, ← Int.pow_mul, Nat.mul_comm]]
            rfl
          case measure => simp [intOf]; omega
        · obtain rfl : j = 8 := by omega
          generalize mixTo s y 8 = t at HS ⊢
          go_wp2
          go_round
          case rel => exact ⟨k + 1, by omega, by go_num, by rw [HS.out]⟩
          case measure => simp [intOf]; omega
    · obtain rfl : k = ws.length := by omega
      go_wp2
      go_ret
      exact ⟨rfl, rfl⟩

theorem cell_spot {w : World} {a : Addr} {v : Value} (h : w.cell? a = some v) : a.spot = none := by
  unfold World.cell? at h
  split at h
  · cases hs : a.spot with
    | none => rfl
    | some _ => simp [hs] at h
  · simp at h
theorem Reads.at {w : World} {sp : Option Addr} {ws : List Int} (h : Reads w sp ws) (i : Nat) (hi : i < ws.length) : ∃ b o, sp = some ⟨b, o, none⟩ ∧ w.cell? ⟨b, o + i, none⟩ = some (.int .u64 (ws[i]?.getD 0)) := by
  obtain ⟨⟨b, o, s⟩, rfl, hc⟩ := h i hi
  have hs : s = none := by
    obtain ⟨a', e, h0⟩ := h 0 (by omega)
    cases e
    have := cell_spot h0
    simpa [Addr.add] using this
  subst hs
  rw [addr_add] at hc
  exact ⟨b, o, rfl, hc⟩

/-- Only draws. -/
def Drew (w w' : World) : Prop := ∃ m, w' = w.drewN m
theorem Drew.refl (w : World) : Drew w w := ⟨0, rfl⟩
theorem drewN_add (w : World) (m n : Nat) : (w.drewN m).drewN n = w.drewN (m + n) := by simp [World.drewN, Nat.add_assoc]
theorem Drew.trans {a b c : World} (h : Drew a b) (k : Drew b c) : Drew a c := by
  obtain ⟨m, rfl⟩ := h
  obtain ⟨n, rfl⟩ := k
  exact ⟨m + n, drewN_add _ _ _⟩

set_option maxHeartbeats 400000 in
theorem sameWords_eq (s1 s2 : Option Addr) (l c1 c2 : Nat) (ws : List Int) (w : World) (hn : ws.length = l) (hl : l * 8 ≤ 140737488355328) (h1 : Reads w s1 ws) (h2 : Reads w s2 ws) :
    Calls Try.prog 38 #[.slice s1 l c1, .slice s2 l c2] w fun e w' => e = .returned (.bool true) ∧ Drew w w' := by
  have hl' : (l : Int) ≤ 17592186044416 := by omega
  have HN : Hid (ws.length = l) := hn
  clear hn
  go_enter Try.func38, Try.ntmps38
  go_wp2_with fail
  go_loopw [5] (fun i wr => ∃ k : Nat, k ≤ l ∧ i = .int .i64 k ∧ Drew w wr) (fun i _ => l - (intOf i).toNat)
  case atStart => exact ⟨0, Nat.zero_le _, rfl, Drew.refl _⟩
  case round =>
    obtain ⟨k, hk, rfl, m, rfl⟩ := hrel
    by_cases hlt : k < l
    · obtain ⟨b1, o1, rfl, g1⟩ := h1.at k (by rw [HN.out]; exact hlt)
      obtain ⟨b2, o2, rfl, g2⟩ := h2.at k (by rw [HN.out]; exact hlt)
      generalize ws[k]?.getD 0 = y at g1 g2
      have hyy : (y != y) = false := by simp
      go_wp2
      go_quiet (fail)
      go_wp2
      go_roundw
      case rel => exact ⟨k + 1, by omega, by go_num, ⟨_, rfl⟩⟩
      case measure => simp [intOf]; omega
    · obtain rfl : k = l := by omega
      go_wp2
      go_ret
      exact ⟨rfl, m, rfl⟩

set_option maxHeartbeats 400000 in
theorem sameCells_eq (s1 s2 : Option Addr) (l c1 c2 : Nat) (cs : List (Int × Int)) (w : World) (hn : cs.length = l) (hl : l ≤ 65536) (h1 : Pairs w s1 cs) (h2 : Pairs w s2 cs) :
    Calls Try.prog 41 #[.slice s1 l c1, .slice s2 l c2] w fun e w' => e = .returned (.bool true) ∧ Drew w w' := by
  have hl' : (l : Int) ≤ 65536 := by omega
  have HN : Hid (cs.length = l) := hn
  clear hn
  go_enter Try.func41, Try.ntmps41
  go_wp2_with fail
  go_loopw [5] (fun i wr => ∃ k : Nat, k ≤ l ∧ i = .int .i64 k ∧ Drew w wr) (fun i _ => l - (intOf i).toNat)
  case atStart => exact ⟨0, Nat.zero_le _, rfl, Drew.refl _⟩
  case round =>
    obtain ⟨k, hk, rfl, m, rfl⟩ := hrel
    by_cases hlt : k < l
    · obtain ⟨b1, o1, rfl, g1, g3⟩ := h1 k (by rw [HN.out]; exact hlt)
      obtain ⟨b2, o2, rfl, g2, g4⟩ := h2 k (by rw [HN.out]; exact hlt)
      generalize (cs[k]?.getD (0, 0)).1 = y at g1 g2
      generalize (cs[k]?.getD (0, 0)).2 = z at g3 g4
      have hyy : (y == y) = true := by simp
      have hzz : (z == z) = true := by simp
      go_wp2
      go_quiet (fail)
      go_wp2
      go_roundw
      case rel => exact ⟨k + 1, by omega, by go_num, ⟨_, rfl⟩⟩
      case measure => simp [intOf]; omega
    · obtain rfl : k = l := by omega
      go_wp2
      go_ret
      exact ⟨rfl, m, rfl⟩

end Go.Proofs.Ytmffkcbdgpaieaa
