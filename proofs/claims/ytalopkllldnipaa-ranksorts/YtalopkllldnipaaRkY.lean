
/- The walks of lay and of the calls New, Push and Len (layer 24). No statement of the seat is proved here. -/
import Derived.Test.YtalopkllldnipaaRkX
namespace Go.Proofs.Ytalopkllldnipaa
open Go.RowKit

theorem free_isW {s : Wd} (h : s.Ok) (a : Int) : isW (s.free a).1.1 := by
  unfold Wd.free
  split
  · exact zero_isW
  · split
    · exact zero_isW
    · exact (h.get a).2.1
theorem take_isW {s : Wd} (h : s.Ok) (a n : Int) : isW (s.take a n).1.1 := by
  unfold Wd.take
  split
  · exact zero_isW
  · split
    · exact zero_isW
    · split
      · unfold Wd.takeN
        split
        · exact zero_isW
        · split
          · exact zero_isW
          · split
            · exact zero_isW
            · exact free_isW ((h.get _).1) _
      · unfold Wd.takeG
        split
        · exact zero_isW
        · split
          · exact zero_isW
          · exact uw_isW _
theorem hepF_isW {x e : Int} {p : Int × Int} {s s1 : Wd} (h : hepF x s = ((p, e), s1)) (hs : s.Ok) : isW p.1 ∧ isW p.2 := by
  obtain ⟨l, f, s2, h1, h2, h3⟩ := bnd_step h
  by_cases hf : f = 0
  · have h2 : (if decide (oat l 0 = 0) ≠ decide (oat l 1 = 0) then err (0, 0) 340 else rtn (oat l 0, oat l 1)) s2 = ((p, e), s1) := h2 hf
    have hw := ((gets_fact h1 hs).2 hf).2
    split at h2
    · unfold err at h2
      simp only [Prod.mk.injEq] at h2
      rw [← h2.1.1]
      exact ⟨zero_isW, zero_isW⟩
    · rw [(rtn_eq h2).1]
      exact ⟨hw 0, hw 1⟩
  · rw [(h3 hf).2.2]
    exact ⟨zero_isW, zero_isW⟩

set_option maxHeartbeats 2000000 in
/-- What lay nowhere is laid. -/
theorem lay5_any {b g c q : Nat} {s s1 : Wd} {r n e : Int} {t : Tr} (heq : Hid (layF r t.c s = ((n, e), s1))) (hr : isW r) {w : World} (h : WdAt w b g c s) (ht : TrAt w q t) (hq : q ≠ b ∧ q ≠ g) :
    Calls Try.prog 56 #[.pointer (some ⟨q, 0, none⟩), .iface 24 (.pointer (some ⟨b, 0, none⟩)), .int .u64 r] w fun a w' => a = .returned (.int .i64 e) ∧ WdAt w' b g c s1 ∧ Keeps (three b g q) w w' ∧ (e = 0 → TrAt w' q { t with at_ := n }) := by
  obtain ⟨m, e1, s2, h1, h2, h3⟩ := bnd_step heq.out
  have hwm : isW m := by have p := take_isW h.ok r 5; rw [h1] at p; exact p
  have HC := hid (take_r (n := 5) (hid h1) hr h)
  have H2 := hid h2
  have H3 := hid h3
  have HT := hid ht
  clear h1 h2 h3 h heq ht
  go_enter Try.func56, Try.ntmps56
  go_wp2_with fail
  refine HC.out.mono ?_
  rintro a w1 ⟨rfl, h1, k1⟩
  have HF := hid (And.intro h1 k1)
  clear HC h1 k1
  by_cases he1 : e1 = 0
  rotate_left
  · go_wp2_with fail
    go_ret
    obtain ⟨rfl, rfl, rfl⟩ := H3.out he1
    exact ⟨rfl, HF.out.1, HF.out.2.mono (fun _ _ f => .inr f), fun q => absurd q he1⟩
  subst he1
  obtain ⟨y, e2, s3, h4, h5, h6⟩ := bnd_step (H2.out rfl)
  have hT1 := HT.out.kept HF.out.2 (fun f => by rcases f with f | f; exact hq.1 f; exact hq.2 f)
  obtain ⟨c0, _⟩ := hT1.cells
  have f0 := hT1.blk.frozen 0
  have hT2 : TrAt (w1.setCell ⟨q, 0, none⟩ (.int .u64 m)) q { t with at_ := m } := ⟨hT1.blk.set 0 _, hT1.len, hwm, hT1.wc⟩
  have ks := keeps_set w1 q 0 (.int .u64 m)
  have hl5 : Lies (w1.setCell ⟨q, 0, none⟩ (.int .u64 m)) (.slice (some ⟨q, 1, none⟩) 5 5) t.c := hT2.lies
  have HC := hid (put_r (hid h4) hwm (HT.out.wc) (by rw [HT.out.len]; decide) (HF.out.1.kept ks (fun e => hq.1 e.symm) (fun e => hq.2 e.symm)) hl5 (slice_ne hq _ _ _))
  have HU := hid (And.intro hT2 ks)
  have H5 := hid (And.intro h5 h6)
  clear hT1 hT2 ks h4 h5 h6 hl5 H2 H3
  go_wp2_with fail
  refine HC.out.mono ?_
  rintro a w2 ⟨rfl, h1, k1⟩
  have HG := hid (And.intro h1 k1)
  clear HC h1 k1
  go_wp2_with fail
  go_ret
  have hk : Keeps (three b g q) w w2 := ((HF.out.2.mono (T := three b g q) (fun _ _ f => .inr f)).trans (HU.out.2.mono (fun _ _ f => .inl f))).three HG.out.2
  by_cases he2 : e2 = 0
  · obtain ⟨rfl, rfl, rfl⟩ := rtn_eq (H5.out.1 he2)
    rw [he2]
    exact ⟨rfl, HG.out.1, hk, fun _ => HU.out.1.kept HG.out.2 (fun f => by rcases f with f | f; exact hq.1 f; exact hq.2 f)⟩
  · obtain ⟨rfl, rfl, rfl⟩ := H5.out.2 he2
    exact ⟨rfl, HG.out.1, hk, fun q => absurd q he2⟩

/-- What Push's turn stands on: the new tree and what the closure has. -/
def PuAt (w : World) (b g y5 y6 y14 q : Nat) (r : Int) (t : Tr) : Prop :=
  TrAt w q t ∧ (q ≠ b ∧ q ≠ g) ∧ w.cell? ⟨y14, 0, none⟩ = some (.pointer (some ⟨q, 0, none⟩)) ∧ w.cell? ⟨y5, 0, none⟩ = some (.iface 24 (.pointer (some ⟨b, 0, none⟩))) ∧ w.cell? ⟨y6, 0, none⟩ = some (.int .u64 r) ∧ (∀ i, i = y5 ∨ i = y6 ∨ i = y14 → ¬ two b g i)
theorem turn_push {b g y5 y6 y14 q : Nat} {c : Nat} {r : Int} {t : Tr} (hr : isW r) (_hf : t.f = true) : TurnAt 55 #[.pointer (some ⟨y14, 0, none⟩), .pointer (some ⟨y5, 0, none⟩), .pointer (some ⟨y6, 0, none⟩)] (layF r t.c) (fun w => PuAt w b g y5 y6 y14 q r t ∧ (q ≠ b ∧ q ≠ g)) (fun i => i = q ∧ (q ≠ b ∧ q ≠ g)) b g c where
  ent := enters (by kernel_rfl)
  call := fun X s s1 n e hT h hp => by
    obtain ⟨⟨h1, h2, h3, h4, h5, h6⟩, _⟩ := hp
    have HC := hid (lay5_any (hid hT) hr h h1 h2)
    have HQ := hid (And.intro h1 h2)
    clear h h1 h6 hT
    go_enter Try.func55, Try.ntmps55
    go_wp2_with fail
    refine HC.out.mono ?_
    rintro a w1 ⟨rfl, h1, k1, g1⟩
    have HF := hid (And.intro h1 (And.intro k1 g1))
    clear HC h1 k1 g1
    go_wp2_with fail
    go_ret
    refine ⟨rfl, HF.out.1, HF.out.2.1.mono (fun i _ f => by rcases f with f | f; exact .inr ⟨f, HQ.out.2⟩; exact .inl f), fun he p u hu huf hp => ?_⟩
    by_cases hpq : p = q
    · subst hpq
      have hu2 : u.f = true := huf.2 ⟨rfl, HQ.out.2⟩
      have g1 := HF.out.2.2 he
      have hb := hu.blk
      have hb2 := HQ.out.1.blk
      have e1 : trV u = trV t := by
        unfold Blk at hb hb2
        rw [hb] at hb2
        injection hb2 with hb2
        injection hb2
      unfold Tr.res
      rw [if_pos hu2]
      have ec : ({ u with at_ := n } : Tr).c.length = 5 := hu.len
      refine ⟨?_, hu.len, g1.wat, hu.wc⟩
      have q1 := g1.blk
      have e2 : trV { u with at_ := n } = trV { t with at_ := n } := by
        unfold trV at e1 ⊢
        simp only [Array.mk.injEq, List.cons.injEq, and_true] at e1
        simp only [Array.mk.injEq, List.cons.injEq, and_true, true_and]
        exact e1.2
      rw [e2]
      exact q1
    · have hu2 : u.f = false := by
        cases h : u.f with
        | false => rfl
        | true => exact absurd (huf.1 h).1 hpq
      rw [res_no hu2]
      exact hu.kept HF.out.2.1 (fun f => by rcases f with f | f; exact hpq f; exact hp f)
  keep := fun {X X'} hp k => by
    obtain ⟨⟨h1, h2, h3, h4, h5, h6⟩, h7⟩ := hp
    refine ⟨⟨h1.kept k (fun f => by rcases f with f | f; exact h2.1 f; exact h2.2 f), h2, ?_, ?_, ?_, h6⟩, h7⟩
    · exact (World.cell?_of_block (k.block y14 (World.block_lt_of_cell? _ _ h3) (h6 _ (.inr (.inr rfl))))).trans h3
    · exact (World.cell?_of_block (k.block y5 (World.block_lt_of_cell? _ _ h4) (h6 _ (.inl rfl)))).trans h4
    · exact (World.cell?_of_block (k.block y6 (World.block_lt_of_cell? _ _ h5) (h6 _ (.inr (.inl rfl))))).trans h5
  off := fun i hi f => by
    obtain ⟨rfl, h⟩ := hi
    rcases f with f | f
    · exact h.1 f
    · exact h.2 f
  lt := fun {X i} hp hi => by
    rw [hi.1]
    exact hp.1.1.lt
end Go.Proofs.Ytalopkllldnipaa
