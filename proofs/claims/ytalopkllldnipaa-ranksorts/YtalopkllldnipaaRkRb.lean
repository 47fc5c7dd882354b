
/- The walk of rank's change (layer 24). No statement of the seat is proved here. -/
import Derived.Test.YtalopkllldnipaaRkR
namespace Go.Proofs.Ytalopkllldnipaa
open Go.RowKit

set_option maxHeartbeats 4000000 in
theorem kchg_any (b g c : Nat) (s : Wd) (a : Int) (_ha : isW a) (o l : List Int) (hol : o.length = l.length) (hl : ∀ i, isW (oat l i)) (u v : Value) (hn : l.length ≤ 5) (w : World) (h : WdAt w b g c s) (ho : Lies w u o) (hk : Lies w v l) (nu : ∀ a c n, u = .slice (some a) n c → ¬ two b g a.block) (ne : ∀ a c n, v = .slice (some a) n c → ¬ two b g a.block) :
    Calls Try.prog 82 #[.iface 24 (.pointer (some ⟨b, 0, none⟩)), .int .u64 a, u, v] w fun e w' => e = .returned (.int .i64 (s.chg a o l).1) ∧ WdAt w' b g c (s.chg a o l).2 ∧ Keeps (two b g) w w' := by
  have mp := meth_put b
  have np := nil_put b
  have HG : Hid (s.chg a o l = chgK a o l s l.length) := rfl
  obtain ⟨n, hnn⟩ : ∃ n, l.length = n := ⟨_, rfl⟩
  have HLN := hid hnn
  rw [hnn] at hn HG
  have H0 : Hid (WdAt w b g c s ∧ Keeps (two b g) w w) := ⟨h, Keeps.refl _ w⟩
  have HK := hid hk
  obtain ⟨va, vc, rfl, _⟩ := hk
  rw [hnn]
  clear hnn
  have NE := hid ne
  have NU := hid nu
  have HO := hid ho
  have HOL := hid (hol.trans HLN.out)
  obtain ⟨ua, uc, rfl, _⟩ := ho
  rw [hol, HLN.out]
  clear h ne nu hol
  go_enter Try.func82, Try.ntmps82
  go_wp2_with fail
  go_loopw [14] (fun iv wr => ∃ j : Nat, j ≤ n ∧ iv = .int .i64 (j : Int) ∧ ∃ sj, Hid (chgK a o l s j = (0, sj) ∧ WdAt wr b g c sj ∧ Keeps (two b g) w wr)) (fun iv _ => n - (intOf iv).toNat)
  case atStart => exact ⟨0, by omega, rfl, s, hid ⟨rfl, H0.out.1, H0.out.2⟩⟩
  case round =>
    obtain ⟨j, hj, rfl, sj, hr⟩ := hrel
    clear H0
    by_cases hlt : j < n
    · have hlti : (j : Int) < n := by omega
      by_cases hsm : oat l j = oat o j
      · have HN : Hid (chgK a o l s (j + 1) = (0, sj)) := hid <| by
          unfold chgK
          rw [hr.out.1]
          simp [hsm]
        obtain ⟨vk, vo, rfl, hc0⟩ := (HK.out.keeps hr.out.2.2 NE.out).at' j (by rw [HLN.out]; exact hlt)
        obtain ⟨uk, uo, rfl, hd0⟩ := (HO.out.keeps hr.out.2.2 NU.out).at' j (by rw [HOL.out]; exact hlt)
        rw [hsm] at hc0
        clear hsm hlt
        go_wp2_with fail
        go_roundw
        case rel => exact ⟨j + 1, by omega, by simp, sj, hid ⟨HN.out, hr.out.2.1, hr.out.2.2⟩⟩
        case measure => simp [intOf]; omega
      obtain ⟨⟨e, s'⟩, eqg⟩ : ∃ r, sj.put (uw (a + j)) (oat l j) = r := ⟨_, rfl⟩
      have HE : Hid (_ = _) := eqg
      have hwj : IntKind.u64.wrap (j : Int) = j := by rw [IntKind.wrap_u64]; omega
      obtain ⟨vk, vo, rfl, hc0⟩ := (HK.out.keeps hr.out.2.2 NE.out).at' j (by rw [HLN.out]; exact hlt)
      obtain ⟨uk, uo, rfl, hd0⟩ := (HO.out.keeps hr.out.2.2 NU.out).at' j (by rw [HOL.out]; exact hlt)
      have hsb : (oat l j == oat o j) = false := by simpa using hsm
      by_cases he : e = 0
      · subst he
        have HN : Hid (chgK a o l s (j + 1) = (0, s')) := hid <| by
          unfold chgK
          rw [hr.out.1]
          simp [eqg, hsm]
        clear eqg hlt hsm
        go_wp2_with fail
        have hh := hr.out.2.1
        refine (tput_r HE (uw_isW _) (hl j) hh).mono ?_
        rintro e_ w2 ⟨rfl, h2, k2⟩
        have HR := hid (And.intro h2 (hr.out.2.2.trans k2))
        clear hh h2 k2 hr HE hc0 hd0 hsb
        go_wp2_with fail
        go_roundw
        case rel => exact ⟨j + 1, by omega, by simp, s', hid ⟨HN.out, HR.out.1, HR.out.2⟩⟩
        case measure => simp [intOf]; omega
      · have HST : Hid (chgK a o l s n = (e, s')) := hid <| by
          have q : chgK a o l s (j + 1) = (e, s') := by
            unfold chgK
            rw [hr.out.1]
            simp [eqg, hsm]
          have q2 := chgK_stop a o l s (j + 1) (by rw [q]; exact he) (n - (j + 1))
          rw [show j + 1 + (n - (j + 1)) = n by omega, q] at q2
          exact q2
        clear eqg hlt hsm
        go_wp2_with fail
        have hh := hr.out.2.1
        refine (tput_r HE (uw_isW _) (hl j) hh).mono ?_
        rintro e_ w2 ⟨rfl, h2, k2⟩
        have HR := hid (And.intro h2 (hr.out.2.2.trans k2))
        clear hh h2 k2 hr HE hc0 hd0 hsb
        go_wp2_with fail
        go_ret
        rw [HG.out, HST.out]
        exact ⟨rfl, HR.out.1, HR.out.2⟩
    · obtain rfl : j = n := by omega
      clear hlt
      go_wp2_with fail
      go_ret
      rw [HG.out, hr.out.1]
      exact ⟨rfl, hr.out.2.1, hr.out.2.2⟩

end Go.Proofs.Ytalopkllldnipaa
