
/- The walk of Get (layer 25). No statement of the seat is proved here. -/
import Derived.Test.YtiacennkjjfifabTmG
namespace Go.Proofs.Ytiacennkjjfifab
open Go.RowKit

set_option maxHeartbeats 400000 in
theorem ehas_any (e : En) (k : Int) (w : World) : Calls Try.prog 20 #[e.v, .int .u64 k] w fun r w' => r = .returned (.bool (e.has k)) ∧ Keeps (fun _ => False) w w' := by
  have kA := keeps_new w (.cells (enC e) 50)
  unfold En.v En.has
  dsimp only [enC] at kA ⊢
  by_cases h1 : e.what = 1
  · have hb1 : (e.what == 1) = true := by simpa using h1
    have hd1 : decide (e.what = 1) = true := decide_eq_true h1
    rw [hd1, Bool.true_and]
    have KA := hid kA
    clear h1 hd1 kA
    go_enter Try.func20, Try.ntmps20
    go_wp2_with fail
    go_ret
    exact ⟨rfl, KA.out⟩
  · have hb1 : (e.what == 1) = false := by simpa using h1
    have hd1 : decide (e.what = 1) = false := decide_eq_false h1
    rw [hd1, Bool.false_and]
    have KA := hid kA
    clear h1 hd1 kA
    go_enter Try.func20, Try.ntmps20
    go_wp2_with fail
    go_ret
    exact ⟨rfl, KA.out⟩
set_option maxHeartbeats 4000000 in
theorem get_any {b g c : Nat} {s s1 : Wd} {at_ k x e1 : Int} {is : Bool} (heq : Hid (tgetF at_ k s = (((x, is), e1), s1))) (rms : Rm s 18) {w : World} (h : WdAt 65 w b g c s) :
    Calls Try.prog 6 #[.iface 62 (.pointer (some ⟨b, 0, none⟩)), .int .u64 at_, .int .u64 k] w fun e w' => e = .returned (.tuple #[.int .u64 x, .bool is, .int .i64 e1]) ∧ Hs 65 w b g c w' s1 := by
  have mg := meth_get b
  have ng := nil_get b
  obtain ⟨E0, f, s2, h1, h2, h3⟩ := bnd_step heq.out
  have HW := hid h1
  have H2 := hid h2
  have H3 := hid h3
  have R1 := hid (rms.le (j := 17) (by omega))
  have R2 : Hid (Rm s2 1) := hid (Rm.reachF (j := 1) rms h1 h.ok)
  have HWD := hid h
  clear h1 h2 h3 rms h heq
  go_enter Try.func6, Try.ntmps6
  go_wp2_with fail
  refine (reach_any HW R1.out HWD.out).mono ?_
  rintro e_ w2 ⟨rfl, k2⟩
  have HC := hid (k2.new (keeps_new w2 (.cells (enC E0) 50)))
  have HB : Hid ((w2.alloc (.cells (enC E0) 50)).heap[w2.heap.size]? = some (.cells (enC E0) 50 (0, 0))) := hid (alloc_block w2 _)
  have HO := hid (Lo.new k2.wd (.cells (enC E0) 50))
  clear k2 HW R1 HWD
  have hb := HB.out
  have c4 : (w2.alloc (.cells (enC E0) 50)).cell? ⟨w2.heap.size, 4, none⟩ = some (.int .u64 E0.leaf) := by rw [cell_of_block hb]; rfl
  unfold En.v
  dsimp only [enC] at HC hb c4 HO ⊢
  by_cases hf : f = 0
  rotate_left
  · obtain ⟨rfl, rfl, hrr⟩ := H3.out hf
    obtain ⟨rfl, rfl⟩ := Prod.mk.inj hrr
    clear H2 H3 hrr hb c4
    go_wp2_with fail
    go_ret3
    exact ⟨rfl, HC.out⟩
  subst hf
  have h4 := H2.out rfl
  clear H2 H3
  have H4 := hid h4
  clear h4
  have HE := hid (ehas_any E0 k)
  go_wp2_with fail
  refine (HE.out _).mono ?_
  rintro e_ w3 ⟨rfl, k3⟩
  have HD := hid (HC.out.new k3)
  have d4 : w3.cell? ⟨w2.heap.size, 4, none⟩ = some (.int .u64 E0.leaf) := by
    have z := (k3.block w2.heap.size (lt_of_block hb) (fun f => f)).trans hb
    rw [cell_of_block z]
    rfl
  clear k3 HE HC hb c4
  cases hh : E0.has k with
  | false =>
    have h4 := H4.out
    rw [if_neg (by rw [hh]; decide)] at h4
    obtain ⟨hrr, rfl, rfl⟩ := rtn_eq h4
    obtain ⟨rfl, rfl⟩ := Prod.mk.inj hrr
    clear hrr h4
    go_wp2_with fail
    go_ret3
    exact ⟨rfl, HD.out⟩
  | true =>
    have h4 := H4.out
    rw [if_pos hh] at h4
    obtain ⟨y, f2, s3, h5, h6, h7⟩ := bnd_step h4
    have HG := hid h5
    have H6 := hid h6
    have H7 := hid h7
    clear h4 h5 h6 h7 H4
    go_wp2_with fail
    refine (tget_r HG (uw_isW _) R2.out HD.out.wd).mono ?_
    rintro e_ w4 ⟨rfl, k4⟩
    have HL := hid (HD.out.trans k4)
    clear k4 HG d4
    by_cases hf2 : f2 = 0
    · obtain ⟨hrr, rfl, rfl⟩ := rtn_eq (H6.out hf2)
      obtain ⟨rfl, rfl⟩ := Prod.mk.inj hrr
      subst hf2
      clear hrr H6 H7
      go_wp2_with fail
      go_ret3
      exact ⟨rfl, HL.out⟩
    · obtain ⟨rfl, rfl, hrr⟩ := H7.out hf2
      obtain ⟨rfl, rfl⟩ := Prod.mk.inj hrr
      clear hrr H6 H7
      go_wp2_with fail
      go_ret3
      exact ⟨rfl, HL.out⟩
end Go.Proofs.Ytiacennkjjfifab
