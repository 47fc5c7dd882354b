
/- The document's Drop (layer 23). No statement of the seat is proved here. -/
import Derived.Test.YtadbplbifjeghaaQxH
namespace Go.Proofs.Ytadbplbifjeghaa
open Go.RowKit

theorem gives_cons0 (n : Int) (ns : List Int) (r : Wd) : givesU 0 ((n :: ns).map fun n => (n, (0 : Int))) r = bnd (giveU 0 n 2) (fun _ => givesU 0 (ns.map fun n => (n, (0 : Int)))) () r := rfl
theorem give_of_u {a n : Int} {s s1 : Wd} {e : Int} (h : giveU 0 a n s = (((), e), s1)) : s.give 0 a n = (e, s1) := by
  unfold giveU at h
  injection h with h1 h2
  injection h1 with h3 h4
  exact Prod.ext h4 h2
set_option maxRecDepth 100000 in
set_option maxHeartbeats 4000000 in
theorem rqdrop_any {b g c : Nat} {r r1 r2 : Wd} (e : Qe) (heq : Hid (givesU 0 (e.ns.map fun n => (n, 0)) r = (((), 0), r1))) (heq2 : Hid (r1.give 0 e.a 3 = (0, r2))) (hn : ∀ i, isW (oat e.ns i)) (ha : isW e.a) (hlen : e.ns.length < 100000) (w : World) (h : WdAt w b g c r) (he : EAt w e) (hd : ∀ i ∈ e.fp, ¬ two b g i) :
    Calls Try.prog 28 #[.pointer (some ⟨e.p, 0, none⟩), .pointer (some ⟨b, 0, none⟩)] w fun er w' => er = .returned (.tuple #[]) ∧ WdAt w' b g c r2 ∧ Keeps (two b g) w w' := by
  obtain ⟨p, vn, vw, qa, ns, ws⟩ := e
  dsimp only at heq heq2 hn ha hlen ⊢
  have HH := hid (And.intro h he)
  have HD := hid hd
  have HN := hid hn
  obtain ⟨an, cn, hv⟩ : ∃ a c, vn = .slice a ns.length c := he.rn.form
  subst hv
  clear h he hd hn
  go_enter Try.func28, Try.ntmps28
  go_wp2_with fail
  go_loopw [4] (fun iv wr => ∃ j : Nat, ∃ rj, j ≤ ns.length ∧ iv = .int .i64 (j : Int) ∧ Hid (givesU 0 ((ns.drop j).map fun n => (n, 0)) rj = (((), 0), r1) ∧ WdAt wr b g c rj ∧ Keeps (two b g) w wr)) (fun iv _ => ns.length - (intOf iv).toNat)
  case atStart => exact ⟨0, r, by omega, rfl, hid ⟨heq.out, HH.out.1, Keeps.refl _ _⟩⟩
  case round =>
    obtain ⟨j, rj, hj, rfl, hr⟩ := hrel
    have hE := HH.out.2.keeps hr.out.2.2 HD.out
    have c1 := hE.c1
    have c0 := hE.c0
    dsimp only at c1 c0
    by_cases hlt : j < ns.length
    · have hlti : (j : Int) < ns.length := by omega
      obtain ⟨x, hx⟩ : ∃ x, ns[j]? = some x := ⟨ns[j], by simp [hlt]⟩
      have hox : oat ns j = x := by unfold oat; rw [hx]; rfl
      have hdrop : ns.drop j = x :: ns.drop (j + 1) := by
        rw [List.drop_eq_getElem_cons hlt]
        congr 1
        have := List.getElem?_eq_getElem hlt
        rw [hx] at this
        injection this with this
        exact this.symm
      have hg := hr.out.1
      rw [hdrop, gives_cons0] at hg
      obtain ⟨⟨⟨⟨⟩, e1⟩, r'⟩, eqg⟩ : ∃ rr, giveU 0 x 2 rj = rr := ⟨_, rfl⟩
      have he1 : e1 = 0 := by
        by_cases h0 : e1 = 0
        · exact h0
        · rw [bnd_no eqg h0] at hg
          injection hg with q1 q2
          injection q1
      subst he1
      rw [bnd_ok eqg] at hg
      have HG := hid hg
      have HE : Hid (_ = _) := give_of_u eqg
      have hwx : isW x := by rw [← hox]; exact HN.out j
      obtain ⟨gs, off, cc, e, hc⟩ := hE.rn.lies.some (by show 0 < ns.length; omega)
      cases e
      have cx : wr.cell? ⟨gs, off + j, none⟩ = some (.int .u64 x) := by rw [← hox]; exact hc j hlt
      have HR := hid (And.intro hr.out.2.1 hr.out.2.2)
      clear hlt hx hox hdrop hg eqg hc hr hE
      go_wp2_with fail
      have hh := HR.out.1
      refine (rgive_r HE hwx hh).mono ?_
      rintro e_ w2 ⟨rfl, h2, k2⟩
      have HF := hid (And.intro h2 (HR.out.2.trans k2))
      clear hh h2 k2 HR HE
      go_wp2_with fail
      go_roundw
      case rel => exact ⟨j + 1, r', by omega, by simp, hid ⟨HG.out, HF.out.1, HF.out.2⟩⟩
      case measure => simp [intOf]; omega
    · obtain rfl : j = ns.length := by omega
      have hrr : rj = r1 := by
        have p := hr.out.1
        rw [List.drop_length] at p
        injection p
      have HR := hid (And.intro hr.out.2.1 hr.out.2.2)
      subst hrr
      clear hlt hr hE
      go_wp2_with fail
      have hh := HR.out.1
      refine (rgive_r heq2 ha hh).mono ?_
      rintro e_ w2 ⟨rfl, h2, k2⟩
      have HF := hid (And.intro h2 (HR.out.2.trans k2))
      clear hh h2 k2 HR
      go_wp2_with fail
      first | refine bodyPost_ret (results_none rfl _ _ _) rfl ?_ | refine bodyPost_end (results_none rfl _ _ _) rfl ?_
      exact ⟨rfl, HF.out.1, HF.out.2⟩
end Go.Proofs.Ytadbplbifjeghaa
