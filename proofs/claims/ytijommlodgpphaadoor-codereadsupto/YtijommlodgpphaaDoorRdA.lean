
/- Walks of whole (package code): a number of seven bits a byte. No statement of the seat is proved here. -/
import Derived.Test.YtijommlodgpphaaDoorCdK
namespace Go.Proofs.YtijommlodgpphaaDoor
open Go.RowKit Go.Shelf

/-- Bytes where they lie. -/
structure BtAt (w : World) (v : Value) (l : List UInt8) : Prop where
  form : ∃ a cap, v = .slice a l.length cap ∧ l.length ≤ cap ∧ ∀ k (hk : k < l.length), ∃ g off, a = some ⟨g, off, none⟩ ∧ w.cell? ⟨g, off + k, none⟩ = some (.int .u8 (l[k]).toNat)
  big : l.length ≤ 140737488355328
theorem BtAt.keeps {w w' : World} {v : Value} {l : List UInt8} (h : BtAt w v l) (k : Keeps (fun _ => False) w w') : BtAt w' v l := by
  obtain ⟨⟨a, cap, rfl, hle, hc⟩, h2⟩ := h
  refine ⟨⟨a, cap, rfl, hle, fun j hj => ?_⟩, h2⟩
  obtain ⟨g, off, rfl, c0⟩ := hc j hj
  refine ⟨g, off, rfl, ?_⟩
  rw [← c0]
  simp only [World.cell?, k.block g (World.block_lt_of_cell? _ _ c0) (fun f => f)]
theorem Bts.btAt {w : World} {base : Nat} {v : Value} {l : List UInt8} (h : Bts w base v l) (hb : l.length ≤ 140737488355328) : BtAt w v l := by
  refine ⟨?_, hb⟩
  rcases h.own.2 with ⟨rfl, h2⟩ | ⟨g, cap, cur, rfl, h1, h2, h3, h4, h5, h6⟩
  · exact ⟨none, 0, by rw [h2], by omega, fun k hk => by omega⟩
  · refine ⟨_, cap, rfl, h3, fun k hk => ⟨g, 0, rfl, ?_⟩⟩
    rw [Nat.zero_add, cell_of_block h2]
    have : (cur.toList.take (l.length * 1))[k]? = some (.int .u8 (l[k]).toNat) := by rw [h6]; simp [hk]
    rw [List.getElem?_take_of_lt (by omega)] at this
    simpa using this

/-- A number of seven bits a byte, read from its first byte on. -/
def whG (at' n : Nat) : List UInt8 → Option (Nat × Nat)
  | [] => none
  | c :: t => if at' = 9 ∧ 1 < c.toNat then none else if 127 < c.toNat then whG (at' + 1) (n + c.toNat % 128 * 2 ^ (7 * at')) t else if c.toNat = 0 ∧ 0 < at' then none else some (n + c.toNat % 128 * 2 ^ (7 * at'), at' + 1)
/-- What whole answers. -/
def WPost (l : List UInt8) (e : Ending) : Prop := match whG 0 0 l with
  | some (n, k) => e = .returned (.tuple #[.int .u64 n, .int .i64 k])
  | none => e = .returned (.tuple #[.int .u64 0, .int .i64 0])

theorem and127 (c : Nat) (h : c < 256) : bits .and .u8 (c : Int) 127 = ((c % 128 : Nat) : Int) := by
  show IntKind.u8.wrap ((BitVec.ofInt 8 (c : Int) &&& BitVec.ofInt 8 127).toNat : Nat) = _
  have h256 : ∀ m : Fin 256, (BitVec.ofNat 8 m.val &&& BitVec.ofInt 8 127).toNat = m.val % 128 := by decide +kernel
  have h1 := h256 ⟨c, h⟩
  rw [show BitVec.ofInt 8 (c : Int) = BitVec.ofNat 8 c from by
    apply BitVec.eq_of_toNat_eq
    rw [BitVec.toNat_ofInt, BitVec.toNat_ofNat]
    omega, h1]
  simp [IntKind.wrap, IntKind.signed, IntKind.bits]
  omega
theorem wrap_id (y : Nat) (h : y < 18446744073709551616) : IntKind.u64.wrap (y : Int) = y := by
  simp [IntKind.wrap, IntKind.signed, IntKind.bits]
  omega
theorem or_add (n x k : Nat) (hn : n < 2 ^ k) (hx : n + x * 2 ^ k < 18446744073709551616) : bits .or .u64 (n : Int) ((x * 2 ^ k : Nat) : Int) = ((n + x * 2 ^ k : Nat) : Int) := by
  show IntKind.u64.wrap ((BitVec.ofInt 64 (n : Int) ||| BitVec.ofInt 64 ((x * 2 ^ k : Nat) : Int)).toNat : Nat) = _
  have e1 : BitVec.ofInt 64 (n : Int) = BitVec.ofNat 64 n := by
    apply BitVec.eq_of_toNat_eq
    rw [BitVec.toNat_ofInt, BitVec.toNat_ofNat]
    omega
  have e2 : BitVec.ofInt 64 ((x * 2 ^ k : Nat) : Int) = BitVec.ofNat 64 (x * 2 ^ k) := by
    apply BitVec.eq_of_toNat_eq
    rw [BitVec.toNat_ofInt, BitVec.toNat_ofNat]
    omega
  have h3 := Nat.two_pow_add_eq_or_of_lt hn x
  rw [e1, e2, BitVec.toNat_or, BitVec.toNat_ofNat, BitVec.toNat_ofNat, Nat.mod_eq_of_lt (by omega), Nat.mod_eq_of_lt (by omega), Nat.or_comm, Nat.mul_comm x, ← h3]
  rw [show 2 ^ k * x + n = n + x * 2 ^ k by rw [Nat.mul_comm, Nat.add_comm]]
  rw [Nat.mul_comm (2 ^ k) x]
  exact wrap_id _ hx

set_option maxRecDepth 100000 in
set_option maxHeartbeats 4000000 in
theorem whole_any (v : Value) (l : List UInt8) (w : World) (h : BtAt w v l) : Calls Tryd.prog 21 #[v] w fun e w' => WPost l e ∧ w' = w := by
  obtain ⟨⟨a, cap, rfl, hle, hc⟩, hbig⟩ := h
  go_enter Tryd.func21, Tryd.ntmps21
  go_wp2_with fail
  go_loopw [4, 9] (fun v1 v2 wr => ∃ (n i : Nat), v1 = .int .u64 n ∧ v2 = .int .i64 i ∧ i ≤ 9 ∧ i ≤ l.length ∧ wr = w ∧ Hid (n < 2 ^ (7 * i) ∧ whG i n (l.drop i) = whG 0 0 l)) (fun _ v _ => l.length - (intOf v).toNat)
  case atStart => exact ⟨0, 0, rfl, rfl, by omega, Nat.zero_le _, rfl, ⟨by simp, rfl⟩⟩
  case round =>
    obtain ⟨n, i, rfl, rfl, hi9, hil, rfl, hh⟩ := hrel
    by_cases hlt : i < l.length
    · have hli : (i : Int) < l.length := by omega
      obtain ⟨g, off, rfl, c0⟩ := hc i hlt
      have h0 := hh.out.2
      have hn := hh.out.1
      rw [List.drop_eq_getElem_cons hlt, whG] at h0
      have hc256 : (l[i]).toNat < 256 := (l[i]).toNat_lt
      generalize (l[i]).toNat = c at *
      have ha := and127 c hc256
      have B0 : Hid (whG 0 0 l = none → WPost l (.returned (.tuple #[.int .u64 0, .int .i64 0]))) := fun h => by unfold WPost; rw [h]
      have B1 : Hid (∀ m k : Nat, whG 0 0 l = some (m, k) → WPost l (.returned (.tuple #[.int .u64 m, .int .i64 k]))) := fun m k h => by unfold WPost; rw [h]
      by_cases h9 : i = 9 ∧ 1 < c
      · obtain ⟨rfl, hc1⟩ := h9
        rw [if_pos ⟨rfl, hc1⟩] at h0
        have hR := B0.out h0.symm
        have g1 : (1 : Int) < c := by omega
        clear h0 hh B0 B1 hc ha
        go_wp2_with fail
        go_ret2
        exact ⟨hR, rfl⟩
      · rw [if_neg h9] at h0
        have hx : n + c % 128 * 2 ^ (7 * i) < 18446744073709551616 := by
          rcases (by omega : i = 9 ∨ i ≤ 8) with rfl | h8
          · have : c ≤ 1 := by omega
            simp at hn
            omega
          · have h63 : 2 ^ (7 * i) ≤ 2 ^ 56 := Nat.pow_le_pow_right (by decide) (by omega)
            have : c % 128 * 2 ^ (7 * i) ≤ 127 * 2 ^ (7 * i) := Nat.mul_le_mul_right _ (by omega)
            omega
        have ho := or_add n (c % 128) (7 * i) hn hx
        have hv : bits .or .u64 (n : Int) (IntKind.u64.wrap ((c : Int) % 128 * 2 ^ (7 * i))) = ((n + c % 128 * 2 ^ (7 * i) : Nat) : Int) := by
          rw [show ((c : Int) % 128 * 2 ^ (7 * i)) = ((c % 128 * 2 ^ (7 * i) : Nat) : Int) by simp, wrap_id _ (by omega), ho]
        have hnx : n + c % 128 * 2 ^ (7 * i) < 2 ^ (7 * (i + 1)) := by
          rw [show 7 * (i + 1) = 7 * i + 7 by omega, Nat.pow_add]
          have : c % 128 * 2 ^ (7 * i) ≤ 127 * 2 ^ (7 * i) := Nat.mul_le_mul_right _ (by omega)
          omega
        have hi10 : i = 0 ∨ i = 1 ∨ i = 2 ∨ i = 3 ∨ i = 4 ∨ i = 5 ∨ i = 6 ∨ i = 7 ∨ i = 8 ∨ i = 9 := by omega
        by_cases hgt : 127 < c
        · rw [if_pos hgt] at h0
          have g1 : (127 : Int) < c := by omega
          have HN : Hid (n + c % 128 * 2 ^ (7 * i) < 2 ^ (7 * (i + 1)) ∧ whG (i + 1) (n + c % 128 * 2 ^ (7 * i)) (l.drop (i + 1)) = whG 0 0 l) := ⟨hnx, h0⟩
          have h8 : i ≠ 9 := fun e => h9 ⟨e, by omega⟩
          clear h0 hh B0 B1 hc hnx
          have g9 : ((i : Int) == 9) = false := by simp; omega
          have g7 : (0 : Int) ≤ 7 * (i : Int) := by omega
          have g63 : 7 * (i : Int) < 64 := by omega
          clear ho
          go_wp2_with fail
          go_roundw
          · exact ⟨n + c % 128 * 2 ^ (7 * i), i + 1, by first | rfl | rw [hv], by simp, by omega, by omega, by first | rfl | trivial, HN⟩
          · simp [intOf]; omega
        · rw [if_neg hgt] at h0
          have g1 : ¬ (127 : Int) < c := by omega
          have g7 : (0 : Int) ≤ 7 * (i : Int) := by omega
          have g63 : 7 * (i : Int) < 64 := by omega
          by_cases hz : c = 0 ∧ 0 < i
          · obtain ⟨rfl, hi0⟩ := hz
            rw [if_pos ⟨rfl, hi0⟩] at h0
            have hR := B0.out h0.symm
            have g0 : (0 : Int) < i := by omega
            clear h0 hh B0 B1 hc ho hnx
            by_cases e9 : i = 9
            · subst e9
              go_wp2_with fail
              go_ret2
              exact ⟨hR, rfl⟩
            · have g9 : ((i : Int) == 9) = false := by simp; omega
              go_wp2_with fail
              go_ret2
              exact ⟨hR, rfl⟩
          · rw [if_neg hz] at h0
            have hR := B1.out _ _ h0.symm
            have hz' : ((c : Int) == 0) = true → i = 0 := fun h => by simp at h; omega
            clear h0 hh B0 B1 hc ho hnx
            by_cases e9 : i = 9
            · have hc1 : ¬ (1 : Int) < c := by omega
              have hcz : ((c : Int) == 0) = false := by simp; omega
              have g9 : ((i : Int) == 9) = true := by simp [e9]
              clear e9
              go_wp2_with fail
              go_ret2
              exact ⟨by simpa [hv] using hR, rfl⟩
            · have g9 : ((i : Int) == 9) = false := by simp; omega
              by_cases c0' : c = 0
              · have gi : ¬ (0 : Int) < i := by omega
                have hcz : ((c : Int) == 0) = true := by simp [c0']
                clear c0' hz hz' e9
                go_wp2_with fail
                go_ret2
                exact ⟨by simpa [hv] using hR, rfl⟩
              · have hcz : ((c : Int) == 0) = false := by simp; omega
                go_wp2_with fail
                go_ret2
                exact ⟨by simpa [hv] using hR, rfl⟩
    · have hli : ¬ (i : Int) < l.length := by omega
      have h0 := hh.out.2
      rw [List.drop_eq_nil_of_le (by omega), whG] at h0
      have hR : WPost l (.returned (.tuple #[.int .u64 0, .int .i64 0])) := by unfold WPost; rw [← h0]
      clear hh h0 hc
      go_wp2_with fail
      go_ret2
      exact ⟨hR, rfl⟩
end Go.Proofs.YtijommlodgpphaaDoor
