
/- The document's Chain, Whole and Words (layer 23). No statement of the seat is proved here. -/
import Derived.Test.YtadbplbifjeghaaQwA
import Derived.Test.YtadbplbifjeghaaQuO
namespace Go.Proofs.Ytadbplbifjeghaa
open Go.RowKit

def rch (W : List Int) : Nat → Int → List Int → List Int × Bool
  | 0, _, out => (out, true)
  | k + 1, f, out => if f = 0 then (out, true) else if (W.length : Int) ≤ f then (out, false) else rch W k (oat W f.toNat) (out ++ [f - 1])
theorem rch_of {W : List Int} : ∀ {k : Nat} {f : Int} {ns out : List Int}, lk W f ns → ns.length ≤ k → rch W k f out = (out ++ ns, true)
  | 0, f, ns, out, h, hl => by
    obtain rfl := List.eq_nil_of_length_eq_zero (Nat.le_zero.1 hl)
    simp [rch]
  | k + 1, f, [], out, h, hl => by
    have e : f = 0 := h
    unfold rch
    rw [if_pos e]
    simp
  | k + 1, f, n :: ns, out, h, hl => by
    have h1 := h.1
    have h2 := h.2.1
    have h3 := h.2.2.1
    unfold rch
    rw [if_neg (by omega), if_neg (by omega), h1, rch_of h.2.2.2 (by simpa using hl), show n + 1 - 1 = n by omega]
    simp
theorem rch_back {W : List Int} (hW : ∀ i, isW (oat W i)) : ∀ {k : Nat} {f : Int} {r out : List Int}, isW f → rch W k f out = (r, true) → r.length < out.length + k → ∃ ns, r = out ++ ns ∧ lk W f ns
  | 0, f, r, out, hf, h, hl => by
    unfold rch at h
    injection h with h1 h2
    rw [h1] at hl
    omega
  | k + 1, f, r, out, hf, h, hl => by
    unfold rch at h
    split at h
    · rename_i h0
      injection h with h1 h2
      exact ⟨[], by simp [h1], h0⟩
    · split at h
      · simp at h
      · rename_i h0 h3
        obtain ⟨ns, e, h4⟩ := rch_back hW (hW _) h (by simp; omega)
        have hf1 := hf.1
        exact ⟨(f - 1) :: ns, by rw [e]; simp, by omega, by omega, by omega, by rw [show f - 1 + 1 = f by omega]; exact h4⟩
theorem rch_next {W : List Int} {k : Nat} {f : Int} {out : List Int} (h0 : f ≠ 0) (h1 : ¬ (W.length : Int) ≤ f) : rch W (k + 1) f out = rch W k (oat W f.toNat) (out ++ [f - 1]) := by
  conv => lhs; unfold rch
  rw [if_neg h0, if_neg h1]
theorem rch_len {W : List Int} : ∀ (k : Nat) (f : Int) (out : List Int), (rch W k f out).1.length ≤ out.length + k
  | 0, f, out => Nat.le_refl _
  | k + 1, f, out => by
    unfold rch
    split
    · simp
    · split
      · simp
      · refine Nat.le_trans (rch_len k _ _) ?_
        simp
        omega
theorem Lies.some {w : World} {v : Value} {W : List Int} (h : Lies w v W) (h0 : 0 < W.length) : ∃ g off c, v = .slice (some ⟨g, off, none⟩) W.length c ∧ ∀ i, i < W.length → w.cell? ⟨g, off + i, none⟩ = some (.int .u64 (oat W i)) := by
  obtain ⟨a, c, rfl, hc⟩ := h
  obtain ⟨g, off, rfl, _⟩ := hc 0 h0
  refine ⟨g, off, c, rfl, fun i hi => ?_⟩
  obtain ⟨g', off', e, d⟩ := hc i hi
  cases e
  exact d
theorem Lies.form {w : World} {v : Value} {W : List Int} (h : Lies w v W) : ∃ a c, v = .slice a W.length c := by
  obtain ⟨a, c, e, _⟩ := h
  exact ⟨a, c, e⟩

set_option maxRecDepth 100000 in
set_option maxHeartbeats 4000000 in
theorem rchain_any (vw : Value) (W : List Int) (hW : ∀ i, isW (oat W i)) (hWl : W.length ≤ 17592186044416) (f : Int) (hf : isW f) (n : Nat) (hn : n ≤ 65536) (w : World) (h : Lies w vw W) :
    Calls Try.prog 29 #[vw, .int .u64 f, .int .i64 (n : Int)] w fun e w' => ∃ v, e = .returned (.tuple #[v, .bool (rch W (n + 1) f []).2]) ∧ Wr w' w.heap.size v (rch W (n + 1) f []).1 ∧ Keeps (fun _ => False) w w' := by
  obtain ⟨aw, cw, rfl⟩ := h.form
  have H := hid h
  have HW := hid hW
  have hwl : IntKind.u64.wrap (W.length : Int) = (W.length : Int) := by rw [IntKind.wrap_u64]; omega
  clear h hW
  go_enter Try.func29, Try.ntmps29
  go_wp2_with fail
  go_loopw [1, 8] (fun fv ov wr => ∃ k : Nat, ∃ x out, fv = .int .u64 x ∧ k ≤ n + 1 ∧ isW x ∧ Hid (out.length + k = n + 1 ∧ Wr wr w.heap.size ov out ∧ Keeps (fun _ => False) w wr ∧ rch W k x out = rch W (n + 1) f [])) (fun _ ov _ => n + 1 - lenOf ov)
  case atStart => exact ⟨n + 1, f, [], rfl, Nat.le_refl _, hf, hid ⟨by simp, Wr.nil _ _, Keeps.refl _ _, rfl⟩⟩
  case round =>
    obtain ⟨k, x, out, rfl, hk, hx, hr⟩ := hrel
    obtain ⟨ao, co, rfl⟩ := hr.out.2.1.form
    obtain ⟨m, hm⟩ : ∃ m, out.length = m := ⟨_, rfl⟩
    have HM := hid hm
    rw [hm]
    have hkm : m + k = n + 1 := by have := hr.out.1; omega
    clear hm
    by_cases hx0 : x = 0
    · subst hx0
      have HF : Hid (rch W (n + 1) f [] = (out, true)) := hid (by rw [← hr.out.2.2.2]; cases k <;> simp [rch])
      clear hkm
      go_wp2_with fail
      go_ret2
      rw [HF.out]
      have q := hr.out.2.1
      rw [HM.out] at q
      exact ⟨_, rfl, q, hr.out.2.2.1⟩
    · by_cases hk0 : k = 0
      · subst hk0
        have HF : Hid (rch W (n + 1) f [] = (out, true)) := hid (by rw [← hr.out.2.2.2]; simp [rch])
        have hmn : (n : Int) < (m : Int) := by omega
        clear hkm
        go_wp2_with fail
        go_ret2
        rw [HF.out]
        have q := hr.out.2.1
        rw [HM.out] at q
        exact ⟨_, rfl, q, hr.out.2.2.1⟩
      · obtain ⟨j, rfl⟩ : ∃ j, k = j + 1 := ⟨k - 1, by omega⟩
        have hmn : (m : Int) ≤ (n : Int) := by omega
        have hx1 := hx.1
        have hx2 := hx.2
        have hxs : IntKind.u64.wrap (x - 1) = x - 1 := by rw [IntKind.wrap_u64]; omega
        clear hkm hk0
        by_cases hxl : (W.length : Int) ≤ x
        · have HF : Hid (rch W (n + 1) f [] = (out, false)) := hid (by rw [← hr.out.2.2.2]; unfold rch; rw [if_neg hx0, if_pos hxl])
          by_cases hxl1 : (W.length : Int) ≤ x - 1
          · go_wp2_with fail
            go_ret2
            rw [HF.out]
            have q := hr.out.2.1
            rw [HM.out] at q
            exact ⟨_, rfl, q, hr.out.2.2.1⟩
          · have hxl2 : x - 1 < (W.length : Int) := by omega
            clear hxl1
            go_wp2_with fail
            go_ret2
            rw [HF.out]
            have q := hr.out.2.1
            rw [HM.out] at q
            exact ⟨_, rfl, q, hr.out.2.2.1⟩
        · have hxl2 : x - 1 < (W.length : Int) := by omega
          have hxl3 : x < (W.length : Int) := by omega
          obtain ⟨g, off, c, hv, hc⟩ := (H.out.keeps hr.out.2.2.1 (fun _ _ _ _ q => q)).some (by omega)
          injection hv with hv1 hv2 hv3
          subst hv1
          subst hv3
          have hcell := hc x.toNat (by omega)
          have hstep : rch W j (oat W x.toNat) (out ++ [x - 1]) = rch W (n + 1) f [] := by rw [← hr.out.2.2.2, rch_next hx0 hxl]
          obtain ⟨v', wa, hrun, hwr, hkp⟩ := hr.out.2.1.push hr.out.2.2.1.size (by rw [HM.out]; omega) (x - 1)
          rw [HM.out] at hrun
          have HR : Hid (_ = _) := hrun
          have hkk : Keeps (fun _ => False) w wa := hr.out.2.2.1.step hkp (fun i hi e => by omega)
          have hcw := (H.out.keeps hkk (fun _ _ _ _ q => q)).some (by omega)
          obtain ⟨g', off', c', hv', hc'⟩ := hcw
          cases hv'
          have hcell2 := hc' x.toNat (by omega)
          have HX := hid (And.intro hwr (And.intro hkk hstep))
          have hml : (out ++ [x - 1]).length = m + 1 := by rw [List.length_append, HM.out]; rfl
          have hwo : isW (oat W x.toNat) := HW.out _
          have hjm : (m + 1) + j = n + 1 := by have := hr.out.1; have := HM.out; omega
          obtain ⟨ao', co', hao⟩ := hwr.form
          rw [hml] at hao
          subst hao
          have HML := hid hml
          clear hv2 hc hcell hrun hwr hkp hkk hc' hstep hr hml hxl
          go_wp2_with (at_builtin; refine wpList_append_run rfl _ _ 36 rfl rfl rfl HR.out ?_; clear HR)
          go_roundw
          case rel => exact ⟨j, oat W x.toNat, out ++ [x - 1], rfl, by omega, hwo, hid ⟨by rw [HML.out]; omega, HX.out.1, HX.out.2.1, HX.out.2.2⟩⟩
          case measure => simp [lenOf]; omega
end Go.Proofs.Ytadbplbifjeghaa
