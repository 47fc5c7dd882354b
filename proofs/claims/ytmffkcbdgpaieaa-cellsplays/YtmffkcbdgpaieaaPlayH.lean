/-
  The walk of the law's parts (Fill and Slice). No statement of the seat is proved here.
-/
import Derived.Test.YtmffkcbdgpaieaaPlayG
namespace Go.Proofs.Ytmffkcbdgpaieaa
open Go.RowKit

/-- The two rows are alike again, and nothing else has turned. -/
def Kept4 (w : World) (b c d f cap : Nat) (rest : List Value) (e : Ending) (w' : World) : Prop :=
  e = .returned (.bool true) ∧ (∃ ws n, Alike w' b c d f cap rest ws n) ∧ Keeps (fun k => k = b ∨ k = c ∨ k = d ∨ k = f) w w'

theorem Alike.alloc {W : World} {b c d f cap : Nat} {rest : List Value} {ws : List Int} {n : Int} (h : Alike W b c d f cap rest ws n) (o : Obj) : Alike (W.alloc o) b c d f cap rest ws n :=
  h.kept (S := fun _ => False) ((Keeps.refl _ W).alloc o) (fun f => f) (fun f => f) (fun f => f) (fun f => f)

section
variable (who to lv ad wd od bh : Int) (sp : Option Addr) (l sc : Nat)

set_option maxHeartbeats 400000 in
theorem parts6_none (kd : Int) (hk : kd = 6) (w : World) : Calls Try.prog 45 #[.pointer none, .pointer none, .agg #[.int .i64 kd, .int .i64 who, .int .i64 to, .int .i64 lv, .int .u64 ad, .int .u64 wd, .int .u64 od, .int .u64 bh, .slice sp l sc]] w fun e w' => e = .returned (.bool true) ∧ Keeps (fun _ => False) w w' := by
  subst hk
  have k0 : Keeps (fun _ => False) w (w.alloc (.cells #[.int .i64 6, .int .i64 who, .int .i64 to, .int .i64 lv, .int .u64 ad, .int .u64 wd, .int .u64 od, .int .u64 bh, .slice sp l sc] 40)) := (Keeps.refl _ w).alloc _
  go_enter Try.func45, Try.ntmps45
  go_wp2_with fail
  refine (slice_none none _ _ _ (.inl rfl)).mono ?_
  rintro e w1 ⟨rfl, hw⟩
  subst hw
  go_wp2_with fail
  refine (rslice_nil _ _ _).mono ?_
  rintro e w1 ⟨rfl, hw⟩
  subst hw
  go_wp2_with fail
  refine (num_any _ _).mono ?_
  rintro e w1 ⟨rfl, hw⟩
  subst hw
  go_wp2_with fail
  refine (sameWords_eq none none 0 0 0 [] _ rfl (by omega) (Reads.nil _ _) (Reads.nil _ _)).mono ?_
  rintro e w4 ⟨rfl, hd⟩
  have k4 : Keeps (fun _ => False) w w4 := k0.trans (Keeps.ofDrew hd)
  clear hd k0
  go_wp2_with fail
  refine (spoil_any none 0 w4.heap.size _ (by omega) (fun h => absurd h (by omega))).mono ?_
  rintro e w7 ⟨rfl, k7⟩
  replace k7 := k4.trans (k7.mono (T := fun _ => False) (fun x hx e => by omega))
  go_wp2_with fail
  go_ret
  exact ⟨rfl, k7⟩

set_option maxHeartbeats 400000 in
theorem parts6_at (kd : Int) (hk : kd = 6) (b c d f cap : Nat) (rest : List Value) (ws : List Int) (n : Int) (w : World) (h : Alike w b c d f cap rest ws n) (had : 0 ≤ ad) :
    Calls Try.prog 45 #[.pointer (some ⟨b, 0, none⟩), .pointer (some ⟨d, 0, none⟩), .agg #[.int .i64 kd, .int .i64 who, .int .i64 to, .int .i64 lv, .int .u64 ad, .int .u64 wd, .int .u64 od, .int .u64 bh, .slice sp l sc]] w (Kept4 w b c d f cap rest) := by
  subst hk
  have hle := h.row.le
  have k0 : Keeps (fun _ => False) w (w.alloc (.cells #[.int .i64 6, .int .i64 who, .int .i64 to, .int .i64 lv, .int .u64 ad, .int .u64 wd, .int .u64 od, .int .u64 bh, .slice sp l sc] 40)) := (Keeps.refl _ w).alloc _
  have h0 := h.alloc (.cells #[.int .i64 6, .int .i64 who, .int .i64 to, .int .i64 lv, .int .u64 ad, .int .u64 wd, .int .u64 od, .int .u64 bh, .slice sp l sc] 40)
  have hbx := alloc_block w (.cells #[.int .i64 6, .int .i64 who, .int .i64 to, .int .i64 lv, .int .u64 ad, .int .u64 wd, .int .u64 od, .int .u64 bh, .slice sp l sc] 40)
  have hz0 : w.heap.size < (w.alloc (.cells #[.int .i64 6, .int .i64 who, .int .i64 to, .int .i64 lv, .int .u64 ad, .int .u64 wd, .int .u64 od, .int .u64 bh, .slice sp l sc] 40)).heap.size := by simp
  by_cases hxy : bh < ad
  · go_enter Try.func45, Try.ntmps45
    go_wp2_with fail
    refine (slice_arg b c ws n _ _ _ h0.row hxy).mono ?_
    rintro e w1 ⟨rfl, hw⟩
    subst hw
    go_wp2_with fail
    refine (rslice_arg d _ _ _ hxy).mono ?_
    rintro e w1 ⟨rfl, hw⟩
    subst hw
    go_wp2_with fail
    refine (num_any _ _).mono ?_
    rintro e w1 ⟨rfl, hw⟩
    subst hw
    go_wp2_with fail
    refine (sameWords_eq none none 0 0 0 [] _ rfl (by omega) (Reads.nil _ _) (Reads.nil _ _)).mono ?_
    rintro e w4 ⟨rfl, hd⟩
    have k4 : Keeps (fun _ => False) w w4 := k0.trans (Keeps.ofDrew hd)
    clear hd k0
    go_wp2_with fail
    refine (spoil_any none 0 w4.heap.size _ (by omega) (fun h => absurd h (by omega))).mono ?_
    rintro e w7 ⟨rfl, k7⟩
    replace k7 := k4.trans (k7.mono (T := fun _ => False) (fun x hx e => by omega))
    go_wp2_with fail
    go_ret
    exact ⟨rfl, ⟨ws, n, h.kept k7 (fun f => f) (fun f => f) (fun f => f) (fun f => f)⟩, k7.mono (fun _ _ f => f.elim)⟩
  · by_cases hy : (ws.length : Int) < bh
    · have hxy' : ad ≤ bh := by omega
      have rc0 := h0.ref.cell0
      go_enter Try.func45, Try.ntmps45
      go_wp2_with fail
      refine (slice_range b c ws n _ _ _ h0.row hxy' hy).mono ?_
      rintro e w1 ⟨rfl, hw⟩
      subst hw
      go_wp2_with fail
      refine (rslice_range d _ _ _ _ _ _ rc0 hle hxy' hy).mono ?_
      rintro e w1 ⟨rfl, hw⟩
      subst hw
      go_wp2_with fail
      refine (num_any _ _).mono ?_
      rintro e w1 ⟨rfl, hw⟩
      subst hw
      go_wp2_with fail
      refine (sameWords_eq none none 0 0 0 [] _ rfl (by omega) (Reads.nil _ _) (Reads.nil _ _)).mono ?_
      rintro e w4 ⟨rfl, hd⟩
      have k4 : Keeps (fun _ => False) w w4 := k0.trans (Keeps.ofDrew hd)
      clear hd k0
      go_wp2_with fail
      refine (spoil_any none 0 w4.heap.size _ (by omega) (fun h => absurd h (by omega))).mono ?_
      rintro e w7 ⟨rfl, k7⟩
      replace k7 := k4.trans (k7.mono (T := fun _ => False) (fun x hx e => by omega))
      go_wp2_with fail
      go_ret
      exact ⟨rfl, ⟨ws, n, h.kept k7 (fun f => f) (fun f => f) (fun f => f) (fun f => f)⟩, k7.mono (fun _ _ f => f.elim)⟩
    · have hxy' : ad ≤ bh := by omega
      have hy' : bh ≤ (ws.length : Int) := by omega
      have hpl := part_len ws ad bh hy'
      have HPL : Hid ((part ws ad bh).length = bh.toNat - ad.toNat) := hpl
      have hpm : (bh.toNat - ad.toNat) * 8 ≤ 140737488351232 := by omega
      clear hpl
      go_enter Try.func45, Try.ntmps45
      go_wp2_with fail
      refine (slice_in b c ws n _ _ _ h0.row had hxy' hy').mono ?_
      generalize w.alloc (.cells #[.int .i64 6, .int .i64 who, .int .i64 to, .int .i64 lv, .int .u64 ad, .int .u64 wd, .int .u64 od, .int .u64 bh, .slice sp l sc] 40) = W0 at k0 h0 hbx hz0 ⊢
      rintro e w1 ⟨rfl, hb1, k1⟩
      rw [HPL.out]
      have h1 := h0.kept k1 (fun f => f) (fun f => f) (fun f => f) (fun f => f)
      have hbx1 := k1.blk hbx (fun f => f)
      have x4 : w1.cell? ⟨w.heap.size, 4, none⟩ = some (.int .u64 ad) := cell_of_block hbx1 4
      have x7 : w1.cell? ⟨w.heap.size, 7, none⟩ = some (.int .u64 bh) := cell_of_block hbx1 7
      have rc0 := h1.ref.cell0
      have rcap := h1.ref.cap
      have B1 : Hid _ := hb1
      have hpart : ∀ a, (ad < bh → a = ad.toNat) → Reads w1 (some ⟨f, a, none⟩) (part ws ad bh) := fun a ha => reads_part (fun i hi => h1.ref.wcell i hi) hy' ha had
      clear hb1 hbx hbx1
      go_wp2_with fail
      refine (rslice_in d f _ _ _ _ _ rc0 hle rcap had hxy' hy').mono ?_
      rintro e w2 ⟨a2, d2, rfl, ha2, hw⟩
      subst hw
      replace hpart := hpart a2 ha2
      clear ha2
      go_wp2_with fail
      refine (num_any _ _).mono ?_
      rintro e w3 ⟨rfl, hw⟩
      subst hw
      go_wp2_with fail
      refine (sameWords_eq _ _ _ _ _ (part ws ad bh) _ HPL.out (by omega) (Reads.block B1.out) hpart).mono ?_
      rintro e w4 ⟨rfl, hd⟩
      have k4 : Keeps (fun _ => False) w3 w4 := Keeps.ofDrew hd
      have B4 : Hid _ := k4.blk B1.out (fun f => f)
      clear hd
      go_wp2_with fail
      refine (spoil_any _ _ W0.heap.size _ hpm (fun _ => ⟨_, rfl, B4.out, by rw [u64s_size, HPL.out]; exact Nat.le_refl _⟩)).mono ?_
      rintro e w7 ⟨rfl, k7⟩
      have k8 : Keeps (fun _ => False) w w7 := (((k0.trans (k1.trans k4)).mono (T := fun k => k = W0.heap.size) (fun _ _ f => f.elim)).trans k7).mono (fun x hx e => by omega)
      go_wp2_with fail
      go_ret
      exact ⟨rfl, ⟨ws, n, h.kept k8 (fun f => f) (fun f => f) (fun f => f) (fun f => f)⟩, k8.mono (fun _ _ f => f.elim)⟩

end

end Go.Proofs.Ytmffkcbdgpaieaa
