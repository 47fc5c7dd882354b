
/- The walk of queue's Words (layer 23). No statement of the seat is proved here. -/
import Derived.Test.YtadbplbifjeghaaQuZ
namespace Go.Proofs.Ytadbplbifjeghaa
open Go.RowKit

theorem chain_r {t b g c : Nat} {s : Wd} {q e1 : Int} {sp : List (Int × Int)} {s1 : Wd} (heq : Hid (Wd.chain q s = ((sp, e1), s1))) (hq : isW q) {w : World} (h : Tw w t b g c s) :
    Calls Try.prog 31 #[.iface 24 (.pointer (some ⟨t, 0, none⟩)), .int .u64 q] w fun e w' => ∃ v, e = .returned (.tuple #[v, .int .i64 e1]) ∧ Ow w' w.heap.size v sp ∧ Tw w' t b g c s1 ∧ Keeps (two b g) w w' := by
  have p := chain_any t b g c s q hq w h
  rw [heq.out] at p
  exact p
theorem chn_len : ∀ (k : Nat) (last a to : Int) (sp : List (Int × Int)) (s : Wd), (chn last k a to sp s).1.1.length ≤ sp.length + k
  | 0, last, a, to, sp, s => by
    unfold chn
    split
    · split
      · exact Nat.le_refl _
      · exact Nat.zero_le _
    · exact Nat.zero_le _
  | k + 1, last, a, to, sp, s => by
    unfold chn
    split
    · exact Nat.zero_le _
    · split
      · exact Nat.zero_le _
      · unfold bnd
        split
        · exact Nat.zero_le _
        · refine Nat.le_trans (chn_len k _ _ _ _ _) ?_
          simp
          omega
theorem chain_len (q : Int) (s : Wd) : (Wd.chain q s).1.1.length ≤ 65536 := by
  unfold Wd.chain bnd
  split
  · exact Nat.zero_le _
  · dsimp only
    split
    · exact Nat.zero_le _
    · refine Nat.le_trans (chn_len _ _ _ _ _ _) ?_
      simp
      omega

theorem Wr.base {w : World} {base base' : Nat} {v : Value} {l : List Int} (h : Wr w base v l) (hb : base' ≤ base) : Wr w base' v l := by
  refine ⟨h.1, ?_⟩
  rcases h.2 with h | ⟨g, cap, cur, h0, h1, h2⟩
  · exact .inl h
  · exact .inr ⟨g, cap, cur, h0, Nat.le_trans hb h1, h2⟩
theorem Tw.kept {w w' : World} {t b g c : Nat} {s : Wd} {S : Nat → Prop} (h : Tw w t b g c s) (k : Keeps S w w') (ht : ¬ S t) (hb : ¬ S b) (hg : ¬ S g) : Tw w' t b g c s := ⟨h.tx.kept k ht, h.wd.kept k hb hg, h.ne⟩

set_option maxRecDepth 100000 in
set_option maxHeartbeats 4000000 in
theorem qwords_any (t b g c : Nat) (s : Wd) (q : Int) (hq : isW q) (w : World) (h : Tw w t b g c s) :
    Calls Try.prog 15 #[.iface 24 (.pointer (some ⟨t, 0, none⟩)), .int .u64 q] w fun e w' => ∃ v, e = .returned (.tuple #[v, .int .i64 (Wd.qwords q s).1.2]) ∧ Wr w' w.heap.size v (Wd.qwords q s).1.1 ∧ Tw w' t b g c (Wd.qwords q s).2 ∧ Keeps (two b g) w w' := by
  have HLT : Hid (t < w.heap.size ∧ b < w.heap.size ∧ g < w.heap.size) := h.ltt
  have HH := hid h
  clear h
  obtain ⟨⟨⟨sp, e⟩, s1⟩, eq1⟩ : ∃ rr, Wd.chain q s = rr := ⟨_, rfl⟩
  have hlen : sp.length ≤ 65536 := by have p := chain_len q s; rw [eq1] at p; exact p
  by_cases he : e = 0
  · subst he
    have hs : Wd.qwords q s = ((sp.map (·.2), 0), s1) := by
      unfold Wd.qwords
      rw [bnd_ok eq1]
      rfl
    rw [hs]
    have HE1 : Hid (_ = _) := eq1
    clear hs eq1
    go_enter Try.func15, Try.ntmps15
    go_wp2_with fail
    have hh := HH.out
    refine (chain_r HE1 hq hh).mono ?_
    rintro e_ w1 ⟨sv, rfl, o1, h1, k1⟩
    obtain ⟨av, cv, rfl⟩ := o1.form
    have H0 := hid (And.intro o1 (And.intro h1 k1))
    clear hh h1 k1 o1 HE1 HH
    go_wp2_with fail
    go_loopw [8, 24] (fun wv iv wr => ∃ j : Nat, j ≤ sp.length ∧ iv = .int .i64 (j : Int) ∧ Hid (Wr wr w1.heap.size wv ((sp.take j).map (·.2)) ∧ Keeps (fun _ => False) w1 wr)) (fun _ iv _ => sp.length - (intOf iv).toNat)
    case atStart => exact ⟨0, by omega, rfl, hid ⟨Wr.nil _ _, Keeps.refl _ _⟩⟩
    case round =>
      obtain ⟨j, hj, rfl, hr⟩ := hrel
      by_cases hlt : j < sp.length
      · have hlti : (j : Int) < sp.length := by omega
        obtain ⟨p, hp⟩ : ∃ p, sp[j]? = some p := ⟨sp[j], by simp [hlt]⟩
        obtain ⟨gs, cap, hv, c0, c1⟩ := (H0.out.1.kept hr.out.2 (fun _ f => f.elim)).at hp
        injection hv with hv1 hv2 hv3
        subst hv1
        subst hv3
        have HP := hid hp
        clear hlt hp hv2
        obtain ⟨aw, cw, hwv⟩ := hr.out.1.form
        obtain ⟨m, hm⟩ : ∃ m, ((sp.take j).map (·.2)).length = m := ⟨_, rfl⟩
        rw [hm] at hwv
        subst hwv
        have HM := hid hm
        have hl2 : ((sp.take j).map (·.2)).length < 17592186044416 := by simp; omega
        have hsz : (wr.alloc (.cells #[.int .u64 p.1, .int .u64 p.2] 84)).heap.size = wr.heap.size + 1 := by simp
        obtain ⟨v', wa, hrun, hwr, hkp⟩ := (hr.out.1.keeps ((Keeps.refl (fun _ => False) wr).alloc (.cells #[.int .u64 p.1, .int .u64 p.2] 84)) (fun _ f => f.elim)).push (by rw [hsz]; have := hr.out.2.size; omega) hl2 p.2
        rw [hsz] at hrun
        have HR : Hid (_ = _) := hrun
        have hkk : Keeps (fun _ => False) w1 wa := (hr.out.2.alloc _).step hkp (fun i hi e => by omega)
        have hnext : (sp.take (j + 1)).map (·.2) = (sp.take j).map (·.2) ++ [p.2] := by rw [List.take_add_one, List.map_append, HP.out]; rfl
        rw [← hnext] at hwr
        have HW := hid (And.intro hwr hkk)
        have hlen2 : ((sp.take (j + 1)).map (·.2)).length = m + 1 := by rw [hnext, List.length_append, HM.out]; rfl
        obtain ⟨aw', cw', hwv'⟩ := hwr.form
        rw [hlen2] at hwv'
        subst hwv'
        clear hm hl2 hsz hrun hwr hkp hkk hnext hlen2 hr
        go_wp2_with (at_builtin; refine wpList_append_run rfl _ _ 36 rfl rfl rfl HR.out ?_; clear HR)
        go_roundw
        case rel => exact ⟨j + 1, by omega, by simp, hid ⟨HW.out.1, HW.out.2⟩⟩
        case measure => simp [intOf]; omega
      · obtain rfl : j = sp.length := by omega
        clear hlt
        obtain ⟨aw, cw, hwv⟩ := hr.out.1.form
        have HM : Hid (((sp.take sp.length).map (·.2)).length = sp.length) := hid (by simp)
        rw [HM.out] at hwv
        subst hwv
        go_wp2_with fail
        go_ret2
        have hr2 := hr.out.1
        rw [List.take_length] at hr2
        exact ⟨_, rfl, Wr.base hr2 H0.out.2.2.size, H0.out.2.1.kept hr.out.2 (fun f => f) (fun f => f) (fun f => f), H0.out.2.2.trans (hr.out.2.mono fun _ _ f => f.elim)⟩
  · have hs : Wd.qwords q s = (([], e), s1) := by
      unfold Wd.qwords
      rw [bnd_no eq1 he]
    rw [hs]
    have HE1 : Hid (_ = _) := eq1
    clear hs eq1
    go_enter Try.func15, Try.ntmps15
    go_wp2_with fail
    have hh := HH.out
    refine (chain_r HE1 hq hh).mono ?_
    rintro e_ w1 ⟨sv, rfl, o1, h1, k1⟩
    obtain ⟨av, cv, rfl⟩ := o1.form
    replace HH := hid h1
    have kk := hid k1
    clear hh h1 k1 o1 HE1
    go_wp2_with fail
    go_ret2
    exact ⟨_, rfl, Wr.nil _ _, HH.out, kk.out⟩
end Go.Proofs.Ytadbplbifjeghaa
