
/- RankNil's walk (layer 24). No statement of the seat is proved here. -/
import Derived.Test.YtalopkllldnipaaRnC
namespace Go.Proofs.Ytalopkllldnipaa
open Go.RowKit

theorem nil_do {α : Type} {w : World} {kd on bits wd : Int} {w1 : World} {Q : α} (k : Keeps (fun _ => False) (doX w kd on bits wd) w1) (q : α) (hq : q = Q) : q = Q ∧ DoAt w w1 kd on bits wd ∧ Keeps (fun _ => False) w w1 :=
  ⟨hq, (doX_at w kd on bits wd).1.kept k (fun _ f => f.elim), (doX_at w kd on bits wd).2.trans k⟩
def inK (kd : Int) : Bool := decide (1 ≤ kd) && decide (kd ≤ 8)
def rpN (e : Int) : Value := .agg (rpA 0 0 false 0 (.slice none 0 0) e)
theorem doS_new {w w1 w' : World} (k0 : Keeps (fun _ => False) w w1) (k : Keeps (doS w) w1 w') : Keeps (fun _ => False) w w' := k0.step k (fun i hi f => by unfold doS at f; omega)
theorem do_nil (a h o kd on bits wd : Int) (_hb : isW bits) (w : World) : Calls Try.prog 11 #[.nilIface, .int .u64 a, .int .u64 h, .int .u64 o, stV kd on bits wd] w fun r w' => r = .returned (rpN (if inK kd = true then 1 else 0)) ∧ Keeps (fun _ => False) w w' := by
  by_cases hk : kd < 1 ∨ 8 < kd
  · have hi : inK kd = false := by unfold inK; simp; omega
    rw [hi]
    exact do_other hk
  have hi : inK kd = true := by unfold inK; simp; omega
  rw [hi, if_pos rfl]
  have hc : kd = 1 ∨ kd = 2 ∨ kd = 3 ∨ kd = 4 ∨ kd = 5 ∨ kd = 6 ∨ kd = 7 ∨ kd = 8 := by omega
  rcases hc with rfl | rfl | rfl | rfl | rfl | rfl | rfl | rfl
  · refine (do_kind1 (fun e w1 => e = 1 ∧ Keeps (fun _ => False) w w1) (fun X hX => (push_nil a h wd bits.toNat X).mono ?_)).mono ?_
    · rintro r w1 ⟨rfl, k⟩
      have kx : Keeps (fun _ => False) (doX w 1 on bits wd) w1 := ((Keeps.refl _ _).like hX.1 hX.2.1 hX.2.2.1 hX.2.2.2).trans k
      exact ⟨1, rfl, ⟨rfl, (doX_at w 1 on bits wd).2.trans kx⟩, (doX_at w 1 on bits wd).1.kept kx (fun _ f => f.elim)⟩
    · rintro r w' ⟨e, w1, rfl, ⟨rfl, k0⟩, k⟩
      exact ⟨rfl, doS_new k0 k⟩
  · refine (do_kind2 (fun n x hb e w1 => (n = 0 ∧ x = 0 ∧ hb = false ∧ e = 1) ∧ Keeps (fun _ => False) w w1) ((pop_nil a h _).mono ?_)).mono ?_
    · rintro r w1 ⟨rfl, k⟩
      exact ⟨0, 0, false, 1, rfl, ⟨⟨rfl, rfl, rfl, rfl⟩, (doX_at w 2 on bits wd).2.trans k⟩, (doX_at w 2 on bits wd).1.kept k (fun _ f => f.elim)⟩
    · rintro r w' ⟨n, x, hb, e, w1, rfl, ⟨⟨rfl, rfl, rfl, rfl⟩, k0⟩, k⟩
      exact ⟨rfl, doS_new k0 k⟩
  · refine (do_kind3 (fun n x hb e w1 => (n = 0 ∧ x = 0 ∧ hb = false ∧ e = 1) ∧ Keeps (fun _ => False) w w1) ((first_nil h _).mono ?_)).mono ?_
    · rintro r w1 ⟨rfl, k⟩
      exact ⟨0, 0, false, 1, rfl, ⟨⟨rfl, rfl, rfl, rfl⟩, (doX_at w 3 on bits wd).2.trans k⟩, (doX_at w 3 on bits wd).1.kept k (fun _ f => f.elim)⟩
    · rintro r w' ⟨n, x, hb, e, w1, rfl, ⟨⟨rfl, rfl, rfl, rfl⟩, k0⟩, k⟩
      exact ⟨rfl, doS_new k0 k⟩
  · refine (do_kind4 (fun x e w1 => (x = 0 ∧ e = 1) ∧ Keeps (fun _ => False) w w1) ((len_nil h _).mono ?_)).mono ?_
    · rintro r w1 ⟨rfl, k⟩
      exact ⟨0, 1, rfl, ⟨⟨rfl, rfl⟩, (doX_at w 4 on bits wd).2.trans k⟩, (doX_at w 4 on bits wd).1.kept k (fun _ f => f.elim)⟩
    · rintro r w' ⟨x, e, w1, rfl, ⟨⟨rfl, rfl⟩, k0⟩, k⟩
      exact ⟨rfl, doS_new k0 k⟩
  · refine (do_kind5 (fun la ln lc e w1 => (la = none ∧ ln = 0 ∧ lc = 0 ∧ e = 1) ∧ Keeps (fun _ => False) w w1) ((all_nil h _).mono ?_)).mono ?_
    · rintro r w1 ⟨rfl, k⟩
      exact ⟨none, 0, 0, 1, rfl, ⟨⟨rfl, rfl, rfl, rfl⟩, (doX_at w 5 on bits wd).2.trans k⟩, (doX_at w 5 on bits wd).1.kept k (fun _ f => f.elim)⟩
    · rintro r w' ⟨la, ln, lc, e, w1, rfl, ⟨⟨rfl, rfl, rfl, rfl⟩, k0⟩, k⟩
      exact ⟨rfl, doS_new k0 k⟩
  · refine (do_kind6 (fun x e w1 => (x = 0 ∧ e = 1) ∧ Keeps (fun _ => False) w w1) ((clear_nil a h _).mono ?_)).mono ?_
    · rintro r w1 ⟨rfl, k⟩
      exact ⟨0, 1, rfl, ⟨⟨rfl, rfl⟩, (doX_at w 6 on bits wd).2.trans k⟩, (doX_at w 6 on bits wd).1.kept k (fun _ f => f.elim)⟩
    · rintro r w' ⟨x, e, w1, rfl, ⟨⟨rfl, rfl⟩, k0⟩, k⟩
      exact ⟨rfl, doS_new k0 k⟩
  · refine (do_kind7 (fun e w1 => e = 1 ∧ Keeps (fun _ => False) w w1) ((join_nil h o _).mono ?_)).mono ?_
    · rintro r w1 ⟨rfl, k⟩
      exact ⟨1, rfl, ⟨rfl, (doX_at w 7 on bits wd).2.trans k⟩, (doX_at w 7 on bits wd).1.kept k (fun _ f => f.elim)⟩
    · rintro r w' ⟨e, w1, rfl, ⟨rfl, k0⟩, k⟩
      exact ⟨rfl, doS_new k0 k⟩
  · refine (do_kind8 (fun e w1 => e = 1 ∧ Keeps (fun _ => False) w w1) ((join_nil h h _).mono ?_)).mono ?_
    · rintro r w1 ⟨rfl, k⟩
      exact ⟨1, rfl, ⟨rfl, (doX_at w 8 on bits wd).2.trans k⟩, (doX_at w 8 on bits wd).1.kept k (fun _ f => f.elim)⟩
    · rintro r w' ⟨e, w1, rfl, ⟨rfl, k0⟩, k⟩
      exact ⟨rfl, doS_new k0 k⟩
theorem ordZ : (FloatKind.f64.format.order 0 0 == some Ordering.eq) = true := by kernel_rfl
set_option maxRecDepth 100000 in
set_option maxHeartbeats 4000000 in
theorem none_any (e : Int) (w : World) : Calls Try.prog 14 #[rpN e] w fun r w' => r = .returned (.bool true) ∧ Keeps (fun _ => False) w w' := by
  have oZ := ordZ
  unfold rpN rpA
  go_enter Try.func14, Try.ntmps14
  go_wp2_with fail
  go_ret
  exact ⟨rfl, keeps_new w _⟩
set_option maxRecDepth 100000 in
set_option maxHeartbeats 4000000 in
theorem nil_walk (kd on bits wd at_ h : Int) (hb : isW bits) (w : World) : Calls Try.prog 7 #[stV kd on bits wd, .int .u64 at_, .int .u64 h] w fun r w' => r = .returned (.bool true) ∧ Keeps (fun _ => False) w w' := by
  have HN := hid (fun X => new_nil at_ X)
  have HD := hid (fun X => do_nil at_ h (uw (h + 2)) kd on bits wd hb X)
  have HO := hid (fun e X => none_any e X)
  have HKN := hid (fun X => known_any X)
  obtain ⟨ev, hev⟩ : ∃ ev : Int, ev = (if inK kd = true then 1 else 0) := ⟨_, rfl⟩
  rw [← hev] at HD
  have HEV := hid hev
  have hb0 := blk_new w 33 #[.int .i64 kd, .int .i64 on, .int .u64 bits, .int .u64 wd]
  have HB := hid hb0
  clear hev hb0
  unfold stV rpN rpA at *
  go_enter Try.func7, Try.ntmps7
  go_wp2_with fail
  refine (HN.out _).mono ?_
  rintro r w1 ⟨rfl, k1⟩
  have hb1 := HB.out.kept k1 (fun f => f)
  have s0 : w1.cell? ⟨w.heap.size, 0, none⟩ = some (.int .i64 kd) := hb1.cell rfl
  have s1 : w1.cell? ⟨w.heap.size, 1, none⟩ = some (.int .i64 on) := hb1.cell rfl
  have s2 : w1.cell? ⟨w.heap.size, 2, none⟩ = some (.int .u64 bits) := hb1.cell rfl
  have s3 : w1.cell? ⟨w.heap.size, 3, none⟩ = some (.int .u64 wd) := hb1.cell rfl
  have HK1 := hid ((keeps_new w _).trans k1)
  have HB1 := hid hb1
  clear k1 hb1 HB HN
  go_wp2_with fail
  refine (HD.out _).mono ?_
  rintro r w2 ⟨rfl, k2⟩
  have k3 := keeps_new w2 (.cells #[.float .f64 0, .int .u64 0, .bool false, .int .u64 0, .slice none 0 0, .int .i64 ev] 43)
  have hbs := (HB1.out.kept k2 (fun f => f)).kept k3 (fun f => f)
  have hbr := blk_new w2 43 #[.float .f64 0, .int .u64 0, .bool false, .int .u64 0, .slice none 0 0, .int .i64 ev]
  have HK2 := hid ((HK1.out.trans k2).trans k3)
  have HBS := hid hbs
  have HBR := hid hbr
  have s0 : (w2.alloc (.cells #[.float .f64 0, .int .u64 0, .bool false, .int .u64 0, .slice none 0 0, .int .i64 ev] 43)).cell? ⟨w.heap.size, 0, none⟩ = some (.int .i64 kd) := hbs.cell rfl
  clear k2 k3 hbs hbr HB1 HK1 HD s1 s2 s3
  go_wp2_with fail
  refine (HO.out _ _).mono ?_
  rintro r w3 ⟨rfl, k4⟩
  have s0 : w3.cell? ⟨w.heap.size, 0, none⟩ = some (.int .i64 kd) := (HBS.out.kept k4 (fun f => f)).cell rfl
  have e5 : w3.cell? ⟨w2.heap.size, 5, none⟩ = some (.int .i64 ev) := (HBR.out.kept k4 (fun f => f)).cell rfl
  have HK3 := hid (HK2.out.trans k4)
  clear k4 HBS HBR HK2 HO
  by_cases h1 : kd < 1
  · go_wp2_with fail
    refine (HKN.out _).mono ?_
    rintro r w4 ⟨rfl, k5⟩
    have HK4 := hid (HK3.out.trans k5)
    clear k5 HKN
    go_wp2_with fail
    go_ret
    exact ⟨rfl, HK4.out⟩
  · by_cases h2 : 8 < kd
    · have h3 : kd > 8 := h2
      go_wp2_with fail
      refine (HKN.out _).mono ?_
      rintro r w4 ⟨rfl, k5⟩
      have HK4 := hid (HK3.out.trans k5)
      clear k5 HKN
      go_wp2_with fail
      go_ret
      exact ⟨rfl, HK4.out⟩
    · have h3 : ¬ kd > 8 := h2
      have hev : ev = 1 := by
        rw [HEV.out]
        have : inK kd = true := by unfold inK; simp; omega
        rw [this]; rfl
      subst hev
      go_wp2_with fail
      refine (HKN.out _).mono ?_
      rintro r w4 ⟨rfl, k5⟩
      have HK4 := hid (HK3.out.trans k5)
      clear k5 HKN
      go_wp2_with fail
      go_ret
      exact ⟨rfl, HK4.out⟩
end Go.Proofs.Ytalopkllldnipaa
