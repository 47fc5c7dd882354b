
/- The walk of queue's Drop (layer 23). No statement of the seat is proved here. -/
import Derived.Test.YtadbplbifjeghaaQvA
namespace Go.Proofs.Ytadbplbifjeghaa
open Go.RowKit

theorem givesU_cons (r : Int) (p : Int × Int) (sp : List (Int × Int)) : givesU r (p :: sp) = bnd (giveU r p.1 2) (fun _ => givesU r sp) () := rfl
theorem nodeA_isW (x : Int) : isW (nodeA x) := uw_isW _
theorem chn_isW : ∀ (k : Nat) (last a to : Int) (sp : List (Int × Int)) (s : Wd), (∀ p ∈ sp, isW p.1) → ∀ p ∈ (chn last k a to sp s).1.1, isW p.1
  | 0, last, a, to, sp, s, h => by
    unfold chn
    split
    · split
      · exact h
      · intro p hp; simp [err] at hp
    · intro p hp; simp [err] at hp
  | k + 1, last, a, to, sp, s, h => by
    unfold chn
    split
    · intro p hp; simp [err] at hp
    · split
      · intro p hp; simp [err] at hp
      · unfold bnd
        split
        · intro p hp; simp at hp
        · refine chn_isW k _ _ _ _ _ (fun p hp => ?_)
          rcases List.mem_append.1 hp with hp | hp
          · exact h p hp
          · rw [List.mem_singleton.1 hp]; exact nodeA_isW _
theorem chain_isW (q : Int) (s : Wd) : ∀ p ∈ (Wd.chain q s).1.1, isW p.1 := by
  unfold Wd.chain bnd
  split
  · intro p hp; simp at hp
  · dsimp only
    split
    · intro p hp; simp [err] at hp
    · exact chn_isW _ _ _ _ _ _ (fun p hp => by simp at hp)

set_option maxRecDepth 100000 in
set_option maxHeartbeats 4000000 in
theorem qdrop_any (t b g c : Nat) (s : Wd) (r q : Int) (hq : isW q) (w : World) (h : Tw w t b g c s) :
    Calls Try.prog 17 #[.iface 24 (.pointer (some ⟨t, 0, none⟩)), .int .u64 r, .int .u64 q] w fun e w' => e = .returned (.int .i64 (Wd.qdrop r q s).1.2) ∧ Tw w' t b g c (Wd.qdrop r q s).2 ∧ Keeps (two b g) w w' := by
  have HLT : Hid (t < w.heap.size ∧ b < w.heap.size ∧ g < w.heap.size) := h.ltt
  have HH := hid h
  clear h
  obtain ⟨⟨⟨sp, e⟩, s1⟩, eq1⟩ : ∃ rr, Wd.chain q s = rr := ⟨_, rfl⟩
  have hlen : sp.length ≤ 65536 := by have p := chain_len q s; rw [eq1] at p; exact p
  have HSW : Hid (∀ p ∈ sp, isW p.1) := by have p := chain_isW q s; rw [eq1] at p; exact p
  by_cases he : e = 0
  · subst he
    have hs : Wd.qdrop r q s = bnd (givesU r sp) (fun _ => giveU r q 3) () s1 := by
      unfold Wd.qdrop
      rw [bnd_ok eq1]
    have HS := hid hs
    have HE1 : Hid (_ = _) := eq1
    clear hs eq1
    go_enter Try.func17, Try.ntmps17
    go_wp2_with fail
    have hh := HH.out
    refine (chain_r HE1 hq hh).mono ?_
    rintro e_ w1 ⟨sv, rfl, o1, h1, k1⟩
    obtain ⟨av, cv, rfl⟩ := o1.form
    have H0 := hid (And.intro o1 (And.intro h1 k1))
    clear hh h1 k1 o1 HE1 HH
    go_wp2_with fail
    go_loopw [24] (fun iv wr => ∃ j : Nat, ∃ sj, j ≤ sp.length ∧ iv = .int .i64 (j : Int) ∧ Hid (givesU r (sp.drop j) sj = givesU r sp s1 ∧ Tw wr t b g c sj ∧ Keeps (two b g) w1 wr)) (fun iv _ => sp.length - (intOf iv).toNat)
    case atStart => exact ⟨0, s1, by omega, rfl, hid ⟨rfl, H0.out.2.1, Keeps.refl _ _⟩⟩
    case round =>
      obtain ⟨j, sj, hj, rfl, hr⟩ := hrel
      by_cases hlt : j < sp.length
      · have hlti : (j : Int) < sp.length := by omega
        obtain ⟨p, hp⟩ : ∃ p, sp[j]? = some p := ⟨sp[j], by simp [hlt]⟩
        have hwp : isW p.1 := HSW.out p (List.mem_of_getElem? hp)
        have hbl : ∀ x, (Value.slice av sp.length cv).ownBlock = some x → ¬ two b g x := fun x hx e => by
          have q1 := (H0.out.1.own hx).2
          have q2 := HLT.out
          rcases e with e | e <;> omega
        obtain ⟨gs, cap, hv, c0, c1⟩ := (H0.out.1.keeps hr.out.2.2 hbl).at hp
        injection hv with hv1 hv2 hv3
        subst hv1
        subst hv3
        have hdrop : sp.drop j = p :: sp.drop (j + 1) := by
          rw [List.drop_eq_getElem_cons hlt]
          congr 1
          have := List.getElem?_eq_getElem hlt
          rw [hp] at this
          injection this with this
          exact this.symm
        obtain ⟨⟨⟨⟨⟩, e⟩, s'⟩, eqg⟩ : ∃ rr, giveU r p.1 2 sj = rr := ⟨_, rfl⟩
        have hgv := hr.out.1
        rw [hdrop] at hgv
        rw [givesU_cons] at hgv
        have HE : Hid (_ = _) := eqg
        have H2 := hid (And.intro (hr.out.2.1.alloc (.cells #[.int .u64 p.1, .int .u64 p.2] 84)) (hr.out.2.2.alloc (.cells #[.int .u64 p.1, .int .u64 p.2] 84)))
        by_cases he : e = 0
        · subst he
          rw [bnd_ok eqg] at hgv
          have HG := hid hgv
          clear hlt hp hv2 hbl hdrop eqg hgv hr
          go_wp2_with fail
          have hh := H2.out.1
          refine (give_u HE hwp hh).mono ?_
          rintro e_ w2 ⟨rfl, h2, k2⟩
          have HF := hid (And.intro h2 (H2.out.2.trans k2))
          clear hh h2 k2 H2 HE
          go_wp2_with fail
          go_roundw
          case rel => exact ⟨j + 1, s', by omega, by simp, hid ⟨HG.out, HF.out.1, HF.out.2⟩⟩
          case measure => simp [intOf]; omega
        · rw [bnd_no eqg he] at hgv
          have HG : Hid (Wd.qdrop r q s = (((), e), s')) := hid (by rw [HS.out]; exact bnd_no hgv.symm he)
          clear hlt hp hv2 hbl hdrop eqg hgv hr
          go_wp2_with fail
          have hh := H2.out.1
          refine (give_u HE hwp hh).mono ?_
          rintro e_ w2 ⟨rfl, h2, k2⟩
          have HF := hid (And.intro h2 (H2.out.2.trans k2))
          clear hh h2 k2 H2 HE
          go_wp2_with fail
          go_ret
          rw [HG.out]
          exact ⟨rfl, HF.out.1, H0.out.2.2.trans HF.out.2⟩
      · obtain rfl : j = sp.length := by omega
        have hgv := hr.out.1
        rw [List.drop_length] at hgv
        obtain ⟨⟨⟨⟨⟩, e⟩, s'⟩, eqg⟩ : ∃ rr, giveU r q 3 sj = rr := ⟨_, rfl⟩
        have HE : Hid (_ = _) := eqg
        have HG : Hid (Wd.qdrop r q s = (((), e), s')) := hid (by rw [HS.out, bnd_ok hgv.symm, eqg])
        clear hlt hgv eqg
        go_wp2_with fail
        have hh := hr.out.2.1
        refine (give_u HE hq hh).mono ?_
        rintro e_ w2 ⟨rfl, h2, k2⟩
        have HF := hid (And.intro h2 (hr.out.2.2.trans k2))
        clear hh h2 k2 HE hr
        go_wp2_with fail
        go_ret
        rw [HG.out]
        exact ⟨rfl, HF.out.1, H0.out.2.2.trans HF.out.2⟩
  · have hs : Wd.qdrop r q s = (((), e), s1) := by
      unfold Wd.qdrop
      rw [bnd_no eq1 he]
    rw [hs]
    have HE1 : Hid (_ = _) := eq1
    clear hs eq1
    go_enter Try.func17, Try.ntmps17
    go_wp2_with fail
    have hh := HH.out
    refine (chain_r HE1 hq hh).mono ?_
    rintro e_ w1 ⟨sv, rfl, o1, h1, k1⟩
    obtain ⟨av, cv, rfl⟩ := o1.form
    replace HH := hid h1
    have kk := hid k1
    clear hh h1 k1 o1 HE1
    go_wp2_with fail
    go_ret
    exact ⟨rfl, HH.out, kk.out⟩
theorem qdrop_r {t b g c : Nat} {s : Wd} {r q e1 : Int} {s1 : Wd} (heq : Hid (Wd.qdrop r q s = (((), e1), s1))) (hq : isW q) {w : World} (h : Tw w t b g c s) :
    Calls Try.prog 17 #[.iface 24 (.pointer (some ⟨t, 0, none⟩)), .int .u64 r, .int .u64 q] w fun e w' => e = .returned (.int .i64 e1) ∧ Tw w' t b g c s1 ∧ Keeps (two b g) w w' := by
  have p := qdrop_any t b g c s r q hq w h
  rw [heq.out] at p
  exact p
theorem qwords_r {t b g c : Nat} {s : Wd} {q e1 : Int} {l : List Int} {s1 : Wd} (heq : Hid (Wd.qwords q s = ((l, e1), s1))) (hq : isW q) {w : World} (h : Tw w t b g c s) :
    Calls Try.prog 15 #[.iface 24 (.pointer (some ⟨t, 0, none⟩)), .int .u64 q] w fun e w' => ∃ v, e = .returned (.tuple #[v, .int .i64 e1]) ∧ Wr w' w.heap.size v l ∧ Tw w' t b g c s1 ∧ Keeps (two b g) w w' := by
  have p := qwords_any t b g c s q hq w h
  rw [heq.out] at p
  exact p
end Go.Proofs.Ytadbplbifjeghaa
