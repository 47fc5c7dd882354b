/-
  No statement of the seat is proved here. (Several texts in one: QvA, QvB, QvC.)
-/
import Derived.Test.YtadbplbifjeghaaQuZ
import Derived.Test.YtadbplbifjeghaaQuG

/- The walk of queue's Words (layer 23). No statement of the seat is proved here. -/
namespace Go.Proofs.Ytadbplbifjeghaa
open Go.RowKit

theorem chain_r {t b g c : Nat} {s : Wd} {q e1 : Int} {sp : List (Int × Int)} {s1 : Wd} (heq : Hid (Wd.chain q s = ((sp, e1), s1))) (hq : isW q) {w : World} (h : Tw w t b g c s) :
    Calls Try.prog 31 #[.iface 24 (.pointer (some ⟨t, 0, none⟩)), .int .u64 q] w fun e w' => ∃ v, e = .returned (.tuple #[v, .int .i64 e1]) ∧ Ow w' w.heap.size v sp ∧ Tw w' t b g c s1 ∧ Keeps (two b g) w w' := by
  have p := chain_any t b g c s q hq w h
  rw [heq.out] at p
  exact p
theorem chn_len : ∀ (k : Nat) (last a to : Int) (sp : List (Int × Int)) (s : Wd), (chn last k a to sp s).1.1.length ≤ sp.length + k
  | 0, last, a, to, sp, s => by
    unfold chn
    split
    · split
      · exact Nat.le_refl _
      · exact Nat.zero_le _
    · exact Nat.zero_le _
  | k + 1, last, a, to, sp, s => by
    unfold chn
    split
    · exact Nat.zero_le _
    · split
      · exact Nat.zero_le _
      · unfold bnd
        split
        · exact Nat.zero_le _
        · refine Nat.le_trans (chn_len k _ _ _ _ _) ?_
          simp
          omega
theorem chain_len (q : Int) (s : Wd) : (Wd.chain q s).1.1.length ≤ 65536 := by
  unfold Wd.chain bnd
  split
  · exact Nat.zero_le _
  · dsimp only
    split
    · exact Nat.zero_le _
    · refine Nat.le_trans (chn_len _ _ _ _ _ _) ?_
      simp
      omega

theorem Wr.base {w : World} {base base' : Nat} {v : Value} {l : List Int} (h : Wr w base v l) (hb : base' ≤ base) : Wr w base' v l := by
  refine ⟨h.1, ?_⟩
  rcases h.2 with h | ⟨g, cap, cur, h0, h1, h2⟩
  · exact .inl h
  · exact .inr ⟨g, cap, cur, h0, Nat.le_trans hb h1, h2⟩
theorem Tw.kept {w w' : World} {t b g c : Nat} {s : Wd} {S : Nat → Prop} (h : Tw w t b g c s) (k : Keeps S w w') (ht : ¬ S t) (hb : ¬ S b) (hg : ¬ S g) : Tw w' t b g c s := ⟨h.tx.kept k ht, h.wd.kept k hb hg, h.ne⟩

set_option maxRecDepth 100000 in
set_option maxHeartbeats 4000000 in
theorem qwords_any (t b g c : Nat) (s : Wd) (q : Int) (hq : isW q) (w : World) (h : Tw w t b g c s) :
    Calls Try.prog 15 #[.iface 24 (.pointer (some ⟨t, 0, none⟩)), .int .u64 q] w fun e w' => ∃ v, e = .returned (.tuple #[v, .int .i64 (Wd.qwords q s).1.2]) ∧ Wr w' w.heap.size v (Wd.qwords q s).1.1 ∧ Tw w' t b g c (Wd.qwords q s).2 ∧ Keeps (two b g) w w' := by
  have HLT : Hid (t < w.heap.size ∧ b < w.heap.size ∧ g < w.heap.size) := h.ltt
  have HH := hid h
  clear h
  obtain ⟨⟨⟨sp, e⟩, s1⟩, eq1⟩ : ∃ rr, Wd.chain q s = rr := ⟨_, rfl⟩
  have hlen : sp.length ≤ 65536 := by have p := chain_len q s; rw [eq1] at p; exact p
  by_cases he : e = 0
  · subst he
    have hs : Wd.qwords q s = ((sp.map (·.2), 0), s1) := by
      unfold Wd.qwords
      rw [bnd_ok eq1]
      rfl
    rw [hs]
    have HE1 : Hid (_ = _) := eq1
    clear hs eq1
    go_enter Try.func15, Try.ntmps15
    go_wp2_with fail
    have hh := HH.out
    refine (chain_r HE1 hq hh).mono ?_
    rintro e_ w1 ⟨sv, rfl, o1, h1, k1⟩
    obtain ⟨av, cv, rfl⟩ := o1.form
    have H0 := hid (And.intro o1 (And.intro h1 k1))
    clear hh h1 k1 o1 HE1 HH
    go_wp2_with fail
    go_loopw [8, 24] (fun wv iv wr => ∃ j : Nat, j ≤ sp.length ∧ iv = .int .i64 (j : Int) ∧ Hid (Wr wr w1.heap.size wv ((sp.take j).map (·.2)) ∧ Keeps (fun _ => False) w1 wr)) (fun _ iv _ => sp.length - (intOf iv).toNat)
    case atStart => exact ⟨0, by omega, rfl, hid ⟨Wr.nil _ _, Keeps.refl _ _⟩⟩
    case round =>
      obtain ⟨j, hj, rfl, hr⟩ := hrel
      by_cases hlt : j < sp.length
      · have hlti : (j : Int) < sp.length := by omega
        obtain ⟨p, hp⟩ : ∃ p, sp[j]? = some p := ⟨sp[j], by simp [hlt]⟩
        obtain ⟨gs, cap, hv, c0, c1⟩ := (H0.out.1.kept hr.out.2 (fun _ f => f.elim)).at hp
        injection hv with hv1 hv2 hv3
        subst hv1
        subst hv3
        have HP := hid hp
        clear hlt hp hv2
        obtain ⟨aw, cw, hwv⟩ := hr.out.1.form
        obtain ⟨m, hm⟩ : ∃ m, ((sp.take j).map (·.2)).length = m := ⟨_, rfl⟩
        rw [hm] at hwv
        subst hwv
        have HM := hid hm
        have hl2 : ((sp.take j).map (·.2)).length < 17592186044416 := by simp; omega
        have hsz : (wr.alloc (.cells #[.int .u64 p.1, .int .u64 p.2] 84)).heap.size = wr.heap.size + 1 := by simp
        obtain ⟨v', wa, hrun, hwr, hkp⟩ := (hr.out.1.keeps ((Keeps.refl (fun _ => False) wr).alloc (.cells #[.int .u64 p.1, .int .u64 p.2] 84)) (fun _ f => f.elim)).push (by rw [hsz]; have := hr.out.2.size; omega) hl2 p.2
        rw [hsz] at hrun
        have HR : Hid (_ = _) := hrun
        have hkk : Keeps (fun _ => False) w1 wa := (hr.out.2.alloc _).step hkp (fun i hi e => by omega)
        have hnext : (sp.take (j + 1)).map (·.2) = (sp.take j).map (·.2) ++ [p.2] := by rw [List.take_add_one, List.map_append, HP.out]; rfl
        rw [← hnext] at hwr
        have HW := hid (And.intro hwr hkk)
        have hlen2 : ((sp.take (j + 1)).map (·.2)).length = m + 1 := by rw [hnext, List.length_append, HM.out]; rfl
        obtain ⟨aw', cw', hwv'⟩ := hwr.form
        rw [hlen2] at hwv'
        subst hwv'
        clear hm hl2 hsz hrun hwr hkp hkk hnext hlen2 hr
        go_wp2_with (at_builtin; refine wpList_append_run rfl _ _ 36 rfl rfl rfl HR.out ?_; clear HR)
        go_roundw
        case rel => exact ⟨j + 1, by omega, by simp, hid ⟨HW.out.1, HW.out.2⟩⟩
        case measure => simp [intOf]; omega
      · obtain rfl : j = sp.length := by omega
        clear hlt
        obtain ⟨aw, cw, hwv⟩ := hr.out.1.form
        have HM : Hid (((sp.take sp.length).map (·.2)).length = sp.length) := hid (by simp)
        rw [HM.out] at hwv
        subst hwv
        go_wp2_with fail
        go_ret2
        have hr2 := hr.out.1
        rw [List.take_length] at hr2
        exact ⟨_, rfl, Wr.base hr2 H0.out.2.2.size, H0.out.2.1.kept hr.out.2 (fun f => f) (fun f => f) (fun f => f), H0.out.2.2.trans (hr.out.2.mono fun _ _ f => f.elim)⟩
  · have hs : Wd.qwords q s = (([], e), s1) := by
      unfold Wd.qwords
      rw [bnd_no eq1 he]
    rw [hs]
    have HE1 : Hid (_ = _) := eq1
    clear hs eq1
    go_enter Try.func15, Try.ntmps15
    go_wp2_with fail
    have hh := HH.out
    refine (chain_r HE1 hq hh).mono ?_
    rintro e_ w1 ⟨sv, rfl, o1, h1, k1⟩
    obtain ⟨av, cv, rfl⟩ := o1.form
    replace HH := hid h1
    have kk := hid k1
    clear hh h1 k1 o1 HE1
    go_wp2_with fail
    go_ret2
    exact ⟨_, rfl, Wr.nil _ _, HH.out, kk.out⟩
end Go.Proofs.Ytadbplbifjeghaa


/- The walk of queue's Drop (layer 23). No statement of the seat is proved here. -/
namespace Go.Proofs.Ytadbplbifjeghaa
open Go.RowKit

theorem givesU_cons (r : Int) (p : Int × Int) (sp : List (Int × Int)) : givesU r (p :: sp) = bnd (giveU r p.1 2) (fun _ => givesU r sp) () := rfl
theorem nodeA_isW (x : Int) : isW (nodeA x) := uw_isW _
theorem chn_isW : ∀ (k : Nat) (last a to : Int) (sp : List (Int × Int)) (s : Wd), (∀ p ∈ sp, isW p.1) → ∀ p ∈ (chn last k a to sp s).1.1, isW p.1
  | 0, last, a, to, sp, s, h => by
    unfold chn
    split
    · split
      · exact h
      · intro p hp; simp [err] at hp
    · intro p hp; simp [err] at hp
  | k + 1, last, a, to, sp, s, h => by
    unfold chn
    split
    · intro p hp; simp [err] at hp
    · split
      · intro p hp; simp [err] at hp
      · unfold bnd
        split
        · intro p hp; simp at hp
        · refine chn_isW k _ _ _ _ _ (fun p hp => ?_)
          rcases List.mem_append.1 hp with hp | hp
          · exact h p hp
          · rw [List.mem_singleton.1 hp]; exact nodeA_isW _
theorem chain_isW (q : Int) (s : Wd) : ∀ p ∈ (Wd.chain q s).1.1, isW p.1 := by
  unfold Wd.chain bnd
  split
  · intro p hp; simp at hp
  · dsimp only
    split
    · intro p hp; simp [err] at hp
    · exact chn_isW _ _ _ _ _ _ (fun p hp => by simp at hp)

set_option maxRecDepth 100000 in
set_option maxHeartbeats 4000000 in
theorem qdrop_any (t b g c : Nat) (s : Wd) (r q : Int) (hq : isW q) (w : World) (h : Tw w t b g c s) :
    Calls Try.prog 17 #[.iface 24 (.pointer (some ⟨t, 0, none⟩)), .int .u64 r, .int .u64 q] w fun e w' => e = .returned (.int .i64 (Wd.qdrop r q s).1.2) ∧ Tw w' t b g c (Wd.qdrop r q s).2 ∧ Keeps (two b g) w w' := by
  have HLT : Hid (t < w.heap.size ∧ b < w.heap.size ∧ g < w.heap.size) := h.ltt
  have HH := hid h
  clear h
  obtain ⟨⟨⟨sp, e⟩, s1⟩, eq1⟩ : ∃ rr, Wd.chain q s = rr := ⟨_, rfl⟩
  have hlen : sp.length ≤ 65536 := by have p := chain_len q s; rw [eq1] at p; exact p
  have HSW : Hid (∀ p ∈ sp, isW p.1) := by have p := chain_isW q s; rw [eq1] at p; exact p
  by_cases he : e = 0
  · subst he
    have hs : Wd.qdrop r q s = bnd (givesU r sp) (fun _ => giveU r q 3) () s1 := by
      unfold Wd.qdrop
      rw [bnd_ok eq1]
    have HS := hid hs
    have HE1 : Hid (_ = _) := eq1
    clear hs eq1
    go_enter Try.func17, Try.ntmps17
    go_wp2_with fail
    have hh := HH.out
    refine (chain_r HE1 hq hh).mono ?_
    rintro e_ w1 ⟨sv, rfl, o1, h1, k1⟩
    obtain ⟨av, cv, rfl⟩ := o1.form
    have H0 := hid (And.intro o1 (And.intro h1 k1))
    clear hh h1 k1 o1 HE1 HH
    go_wp2_with fail
    go_loopw [24] (fun iv wr => ∃ j : Nat, ∃ sj, j ≤ sp.length ∧ iv = .int .i64 (j : Int) ∧ Hid (givesU r (sp.drop j) sj = givesU r sp s1 ∧ Tw wr t b g c sj ∧ Keeps (two b g) w1 wr)) (fun iv _ => sp.length - (intOf iv).toNat)
    case atStart => exact ⟨0, s1, by omega, rfl, hid ⟨rfl, H0.out.2.1, Keeps.refl _ _⟩⟩
    case round =>
      obtain ⟨j, sj, hj, rfl, hr⟩ := hrel
      by_cases hlt : j < sp.length
      · have hlti : (j : Int) < sp.length := by omega
        obtain ⟨p, hp⟩ : ∃ p, sp[j]? = some p := ⟨sp[j], by simp [hlt]⟩
        have hwp : isW p.1 := HSW.out p (List.mem_of_getElem? hp)
        have hbl : ∀ x, (Value.slice av sp.length cv).ownBlock = some x → ¬ two b g x := fun x hx e => by
          have q1 := (H0.out.1.own hx).2
          have q2 := HLT.out
          rcases e with e | e <;> omega
        obtain ⟨gs, cap, hv, c0, c1⟩ := (H0.out.1.keeps hr.out.2.2 hbl).at hp
        injection hv with hv1 hv2 hv3
        subst hv1
        subst hv3
        have hdrop : sp.drop j = p :: sp.drop (j + 1) := by
          rw [List.drop_eq_getElem_cons hlt]
          congr 1
          have := List.getElem?_eq_getElem hlt
          rw [hp] at this
          injection this with this
          exact this.symm
        obtain ⟨⟨⟨⟨⟩, e⟩, s'⟩, eqg⟩ : ∃ rr, giveU r p.1 2 sj = rr := ⟨_, rfl⟩
        have hgv := hr.out.1
        rw [hdrop] at hgv
        rw [givesU_cons] at hgv
        have HE : Hid (_ = _) := eqg
        have H2 := hid (And.intro (hr.out.2.1.alloc (.cells #[.int .u64 p.1, .int .u64 p.2] 84)) (hr.out.2.2.alloc (.cells #[.int .u64 p.1, .int .u64 p.2] 84)))
        by_cases he : e = 0
        · subst he
          rw [bnd_ok eqg] at hgv
          have HG := hid hgv
          clear hlt hp hv2 hbl hdrop eqg hgv hr
          go_wp2_with fail
          have hh := H2.out.1
          refine (give_u HE hwp hh).mono ?_
          rintro e_ w2 ⟨rfl, h2, k2⟩
          have HF := hid (And.intro h2 (H2.out.2.trans k2))
          clear hh h2 k2 H2 HE
          go_wp2_with fail
          go_roundw
          case rel => exact ⟨j + 1, s', by omega, by simp, hid ⟨HG.out, HF.out.1, HF.out.2⟩⟩
          case measure => simp [intOf]; omega
        · rw [bnd_no eqg he] at hgv
          have HG : Hid (Wd.qdrop r q s = (((), e), s')) := hid (by rw [HS.out]; exact bnd_no hgv.symm he)
          clear hlt hp hv2 hbl hdrop eqg hgv hr
          go_wp2_with fail
          have hh := H2.out.1
          refine (give_u HE hwp hh).mono ?_
          rintro e_ w2 ⟨rfl, h2, k2⟩
          have HF := hid (And.intro h2 (H2.out.2.trans k2))
          clear hh h2 k2 H2 HE
          go_wp2_with fail
          go_ret
          rw [HG.out]
          exact ⟨rfl, HF.out.1, H0.out.2.2.trans HF.out.2⟩
      · obtain rfl : j = sp.length := by omega
        have hgv := hr.out.1
        rw [List.drop_length] at hgv
        obtain ⟨⟨⟨⟨⟩, e⟩, s'⟩, eqg⟩ : ∃ rr, giveU r q 3 sj = rr := ⟨_, rfl⟩
        have HE : Hid (_ = _) := eqg
        have HG : Hid (Wd.qdrop r q s = (((), e), s')) := hid (by rw [HS.out, bnd_ok hgv.symm, eqg])
        clear hlt hgv eqg
        go_wp2_with fail
        have hh := hr.out.2.1
        refine (give_u HE hq hh).mono ?_
        rintro e_ w2 ⟨rfl, h2, k2⟩
        have HF := hid (And.intro h2 (hr.out.2.2.trans k2))
        clear hh h2 k2 HE hr
        go_wp2_with fail
        go_ret
        rw [HG.out]
        exact ⟨rfl, HF.out.1, H0.out.2.2.trans HF.out.2⟩
  · have hs : Wd.qdrop r q s = (((), e), s1) := by
      unfold Wd.qdrop
      rw [bnd_no eq1 he]
    rw [hs]
    have HE1 : Hid (_ = _) := eq1
    clear hs eq1
    go_enter Try.func17, Try.ntmps17
    go_wp2_with fail
    have hh := HH.out
    refine (chain_r HE1 hq hh).mono ?_
    rintro e_ w1 ⟨sv, rfl, o1, h1, k1⟩
    obtain ⟨av, cv, rfl⟩ := o1.form
    replace HH := hid h1
    have kk := hid k1
    clear hh h1 k1 o1 HE1
    go_wp2_with fail
    go_ret
    exact ⟨rfl, HH.out, kk.out⟩
theorem qdrop_r {t b g c : Nat} {s : Wd} {r q e1 : Int} {s1 : Wd} (heq : Hid (Wd.qdrop r q s = (((), e1), s1))) (hq : isW q) {w : World} (h : Tw w t b g c s) :
    Calls Try.prog 17 #[.iface 24 (.pointer (some ⟨t, 0, none⟩)), .int .u64 r, .int .u64 q] w fun e w' => e = .returned (.int .i64 e1) ∧ Tw w' t b g c s1 ∧ Keeps (two b g) w w' := by
  have p := qdrop_any t b g c s r q hq w h
  rw [heq.out] at p
  exact p
theorem qwords_r {t b g c : Nat} {s : Wd} {q e1 : Int} {l : List Int} {s1 : Wd} (heq : Hid (Wd.qwords q s = ((l, e1), s1))) (hq : isW q) {w : World} (h : Tw w t b g c s) :
    Calls Try.prog 15 #[.iface 24 (.pointer (some ⟨t, 0, none⟩)), .int .u64 q] w fun e w' => ∃ v, e = .returned (.tuple #[v, .int .i64 e1]) ∧ Wr w' w.heap.size v l ∧ Tw w' t b g c s1 ∧ Keeps (two b g) w w' := by
  have p := qwords_any t b g c s q hq w h
  rw [heq.out] at p
  exact p
end Go.Proofs.Ytadbplbifjeghaa


/- A world that is laid (layer 23), and the statement's example: works. No statement of the seat is proved here. -/
namespace Go.Proofs.Ytadbplbifjeghaa
open Go.RowKit

theorem wd_made {w : World} {b g c : Nat} {s : Wd} (hb : b = w.heap.size) (hr : ∃ cur, w.heap[g]? = some (.cells cur 33 (0, 0)) ∧ ∀ i, i < s.W.length → cur[i]? = some (.int .u64 (oat s.W i))) (ok : s.Ok) : WdAt (w.alloc (.cells #[.slice (some ⟨g, 0, none⟩) s.W.length c, .int .i64 s.l, .int .i64 s.c, .int .i64 s.n] 40)) b g c s := by
  subst hb
  obtain ⟨cur, h1, h2⟩ := hr
  have hg := lt_of_block h1
  exact ⟨alloc_block w _, ⟨cur, (Below.heap_alloc _ _ _ hg).trans h1, h2⟩, by omega, ok⟩
theorem tw_made {w : World} {t b g c : Nat} {s : Wd} (ht : t = w.heap.size) (h : WdAt w b g c s) : Tw (w.alloc (.cells #[.pointer (some ⟨b, 0, none⟩)] 28)) t b g c s := by
  subst ht
  have hb := h.ltb
  have hg := h.ltg
  exact ⟨⟨alloc_block w _, by omega⟩, h.kept (S := fun _ => False) ((Keeps.refl _ w).alloc _) (fun f => f) (fun f => f), by omega⟩
theorem run_made (n : Nat) (hn : n ≤ 35184372088832) (w : World) : (Instr.makeSlice 36 (.int .i64 n) (.int .i64 n)).run Try.prog w =
    .ok (.slice (some ⟨w.heap.size, 0, none⟩) n n) (w.alloc (.cells (madeCells #[.int .u64 0] n) 33)) := by
  obtain ⟨i0, hi, hz0, hz1, hz2⟩ := info_parts info_word
  have h := run_make (P := Try.prog) w 36 33 i0 _ Try.underlying36 hi hz0 .i64 .i64 n n (by omega) (by omega) (by rw [hz2]; omega) (by omega)
  rw [h, hz1, Int.toNat_natCast, Nat.mul_one]
  rfl
/-- A world that is laid. -/
def lay0 (n : Nat) : Wd := (⟨List.replicate n 0, -1, 0, 0⟩ : Wd)
def laidW (n : Nat) : Wd := { ((lay0 n).lay 0 18 n).2 with n := 0 }
theorem rlay_r {b g c : Nat} {s : Wd} {a p q e1 : Int} {s1 : Wd} (heq : Hid (s.lay a p q = (e1, s1))) (ha : isW a) (hp : isW p) (hq : isW q) {w : World} (h : WdAt w b g c s) :
    Calls Try.prog 18 #[.pointer (some ⟨b, 0, none⟩), .int .u64 a, .int .u64 p, .int .u64 q] w fun e w' => e = .returned (.int .i64 e1) ∧ WdAt w' b g c s1 ∧ Keeps (two b g) w w' := by
  have q := rlay_any b g c s a p q ha hp hq w h
  rw [heq.out] at q
  exact q
theorem lit_isW (n : Nat) (h : n < 18446744073709551616) : isW (n : Int) := ⟨by omega, by omega⟩
set_option maxRecDepth 100000 in
set_option maxHeartbeats 1000000 in
theorem laid_any (n : Nat) (hn : n ≤ 1000) (w : World) : Calls Try.prog 6 #[.int .i64 n] w fun e w' => ∃ b g c, e = .returned (.pointer (some ⟨b, 0, none⟩)) ∧ WdAt w' b g c (laidW n) ∧ Keeps (fun _ => False) w w' ∧ w.heap.size ≤ b ∧ w.heap.size ≤ g := by
  have hmk := run_made n (by omega)
  have hwn : IntKind.u64.wrap (n : Int) = n := by rw [IntKind.wrap_u64]; omega
  have e1 : ∀ (x : World) (o : Obj), (x.alloc o).heap.size = x.heap.size + 1 := fun x o => by simp
  have hrow : ∃ cur, (w.alloc (.cells (madeCells #[.int .u64 0] n) 33)).heap[w.heap.size]? = some (.cells cur 33 (0, 0)) ∧ ∀ i, i < (List.replicate n (0 : Int)).length → cur[i]? = some (.int .u64 (oat (List.replicate n 0) i)) := ⟨_, alloc_block w _, fun i hi => by
    have q := u64s_get (List.replicate n 0) i hi
    rw [← madeCells_u64] at q
    exact q⟩
  have hok : Wd.Ok ⟨List.replicate n 0, -1, 0, 0⟩ := ⟨fun x hx => by rw [List.eq_of_mem_replicate hx]; exact ⟨Int.le_refl _, by simp⟩, by simp; omega⟩
  have h1 := wd_made (w := w.alloc (.cells (madeCells #[.int .u64 0] n) 33)) (b := w.heap.size + 1) (g := w.heap.size) (c := n) (s := ⟨List.replicate n 0, -1, 0, 0⟩) (e1 _ _).symm hrow hok
  simp only [List.length_replicate] at h1
  obtain ⟨⟨e, s1⟩, eq1⟩ : ∃ rr, (lay0 n).lay 0 18 n = rr := ⟨_, rfl⟩
  have HS : Hid (laidW n = { s1 with n := 0 }) := hid (by unfold laidW; rw [eq1])
  have HE : Hid (_ = _) := eq1
  have H1 := hid h1
  clear h1 hrow hok eq1
  go_enter Try.func6, Try.ntmps6
  go_wp2_with fail
  have hh := H1.out
  refine (rlay_r HE (lit_isW 0 (by omega)) (lit_isW 18 (by omega)) (lit_isW n (by omega)) hh).mono ?_
  rintro e_ w2 ⟨rfl, h2, k2⟩
  have HF := hid (And.intro h2 k2)
  have c3 := h2.cell3
  have f3 := h2.frozen 3
  clear hh h2 k2 H1 HE
  go_wp2_with fail
  go_ret
  have h3 := HF.out.1.calls 0
  rw [HS.out]
  have kk : Keeps (fun _ => False) w w2 := (((Keeps.refl (fun _ => False) w).alloc _).alloc _).step HF.out.2 (fun i hi e => by rcases e with e | e <;> omega)
  exact ⟨_, _, _, rfl, h3, kk.step ((Keeps.refl (fun i => i = w.heap.size + 1) w2).setCell (p := ⟨w.heap.size + 1, 3, none⟩) (.inr rfl) _) (fun i hi e => by omega), by omega, by omega⟩
end Go.Proofs.Ytadbplbifjeghaa
