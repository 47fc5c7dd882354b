
/- A walk of the document's end (package parleyref15). No statement of the seat is proved here. -/
import Derived.Test.YtjkileijkgbndaaDoorWiA
import Derived.Test.YtjkileijkgbndaaDoorEvX
import Derived.Test.YtjkileijkgbndaaDoorEvF
import Derived.Deep.RegionHeld3
namespace Go.Proofs.YtjkileijkgbndaaDoor
open Go.RowKit Go.Shelf

theorem blkG_in : ∀ (h : List Ev) (p : Pt) (k : Nat), blkG p h k = p ∨ (blkG p h k).la < (k : Int) + h.length
  | [], p, k => .inl rfl
  | e :: h, p, k => by
    rw [blkG]
    have hl : ((e :: h).length : Int) = h.length + 1 := by simp
    split
    · rcases blkG_in h p (k + 1) with q | q
      · exact .inl q
      · right; rw [hl]; omega
    · split
      · right; rw [noteP_la, hl]; omega
      · rcases blkG_in h (noteP p k e) (k + 1) with q | q
        · right; rw [q, noteP_la, hl]; omega
        · right; rw [hl]; omega
/-- The block that begins at a place. -/
def blkAt (L : List Ev) (p : Nat) : Pt := blkG (newP ((L[p]?).getD ev0) p) (L.drop (p + 1)) (p + 1)
theorem blkAt_la {L : List Ev} {p : Nat} (hp : p < L.length) : (p : Int) ≤ (blkAt L p).la ∧ (blkAt L p).la < L.length := by
  unfold blkAt
  have h1 : (newP ((L[p]?).getD ev0) p).la = p := noteP_la _ _ _
  have h2 := blkG_la (L.drop (p + 1)) (newP ((L[p]?).getD ev0) p) (p + 1)
  have h3 := blkG_in (L.drop (p + 1)) (newP ((L[p]?).getD ev0) p) (p + 1)
  have hl : (L.drop (p + 1)).length = L.length - (p + 1) := by simp
  rcases h2 with q | q <;> rcases h3 with r | r
  · rw [q, h1]; omega
  · rw [q, h1]; omega
  · rw [r, h1]; omega
  · rw [hl] at r; omega

set_option maxRecDepth 100000 in
set_option maxHeartbeats 8000000 in
theorem rend_any (v : Value) (L : List Ev) (p : Nat) (hp : p < L.length) (h1 : (L[p]).kd = 1) (w : World) (hv : EvsAt w v L) :
    Calls Tryd.prog 35 #[v, .int .i64 (p : Int)] w fun ex w' => ex = .returned (.tuple #[.int .i64 (blkAt L p).la, .bool (decide ((blkAt L p).kd ≠ 5))]) ∧ Keeps (fun _ => False) w w' := by
  have hbig := hv.big
  have HV : Hid (∀ X, Keeps (fun _ => False) w X → EvsAt X v L) := fun X k => hv.keeps k
  obtain ⟨a, cap, rfl, hcap⟩ := hv.els.shape
  clear hv
  have hb : blkAt L p = blkG (newP (L[p]) p) (L.drop (p + 1)) (p + 1) := by simp [blkAt, hp]
  generalize blkAt L p = z at *
  have HZ : Hid (z = blkG (newP (L[p]'hp) p) (L.drop (p + 1)) (p + 1)) := hb
  clear hb
  obtain ⟨th0, hth⟩ : ∃ t, t = (L[p]'hp).th := ⟨_, rfl⟩
  have HT : Hid (th0 = (L[p]'hp).th) := hth
  have HQ : Hid ((newP (L[p]'hp) p).kd = 5 ∧ (newP (L[p]'hp) p).th = th0 ∧ (newP (L[p]'hp) p).la = p) := ⟨newP_kd p h1, by rw [newP_th, hth], noteP_la _ _ _⟩
  have hpi : (p : Int) < L.length := by omega
  have hp0 : (0 : Int) ≤ p := by omega
  have hwp : IntKind.i64.wrap ((p : Int) + 1) = (p : Int) + 1 := by rw [IntKind.wrap_i64]; omega
  clear hth
  obtain ⟨la, hla⟩ : ∃ la, la = z.la := ⟨_, rfl⟩
  obtain ⟨ov, hov⟩ : ∃ ov, ov = decide (z.kd ≠ 5) := ⟨_, rfl⟩
  rw [← hla, ← hov]
  have HL : Hid (la = z.la ∧ ov = decide (z.kd ≠ 5)) := ⟨hla, hov⟩
  clear hla hov
  go_enter Tryd.func35, Tryd.ntmps35
  go_wp2_with fail
  go_loopw [6, 7, 8] (fun u6 u7 u8 wr => ∃ (k : Nat) (q : Pt), u6 = .int .i64 q.la ∧ u7 = .int .i64 k ∧ p + 1 ≤ k ∧ k ≤ L.length ∧ Hid (q.kd = 5 ∧ q.th = th0 ∧ z = blkG q (L.drop k) k) ∧ Keeps (fun _ => False) w wr) (fun _ u7 _ _ => L.length - (intOf u7).toNat)
  case atStart => exact ⟨p + 1, newP (L[p]'hp) p, by rw [HQ.out.2.2], by simp, Nat.le_refl _, by omega, ⟨HQ.out.1, HQ.out.2.1, HZ.out⟩, Keeps.refl _ _⟩
  case round =>
    obtain ⟨k, q, rfl, rfl, hpk, hk, hh, kr⟩ := hrel
    by_cases hlt : k < L.length
    · have hki : (k : Int) < L.length := by omega
      have hk0 : (0 : Int) ≤ k := by omega
      have hwk : IntKind.i64.wrap ((k : Int) + 1) = (k : Int) + 1 := by rw [IntKind.wrap_i64]; omega
      obtain ⟨g, off, rfl, x0, x1, x2, x3, x4, x5⟩ := (HV.out wr kr).at k hlt
      obtain ⟨g', off', hgo, y0, -⟩ := (HV.out wr kr).at p hp
      simp only [Option.some.injEq, Addr.mk.injEq, and_true] at hgo
      obtain ⟨rfl, rfl⟩ := hgo
      rw [← HT.out] at y0
      have hz := hh.out.2.2
      rw [List.drop_eq_getElem_cons hlt, blkG] at hz
      have HH : Hid (q.kd = 5 ∧ q.th = th0) := ⟨hh.out.1, hh.out.2.1⟩
      have HE : Hid (z = _) := hz
      clear hz hh
      generalize hev : L[k]'hlt = e at *
      clear hev
      obtain ⟨th, kd, ad, wd, own, er⟩ := e
      dsimp only at x0 x1 x2 x3 x4 x5
      have hS0 : wr.cell? ⟨g, off + k * 6, none⟩ = some (.int .i64 th) ∧ wr.cell? ⟨g, off + p * 6, none⟩ = some (.int .i64 th0) := ⟨x0, y0⟩
      have HV2 := HV
      clear HV HZ HQ HT x2 x3 x4 x5 hbig
      by_cases ht : th = th0
      · subst ht
        by_cases hE : kd = 6 ∨ kd = 7 ∨ kd = 8 ∨ kd = 9
        · have hz : z.la = k ∧ z.kd ≠ 5 := by
            have h0 := HE.out
            have hEB : endB kd = true := by unfold endB; simp; omega
            rw [if_neg (by rw [HH.out.2]; simp), if_pos hEB] at h0
            rw [h0]
            exact ⟨noteP_la _ _ _, noteP_end hEB⟩
          obtain ⟨rfl, rfl⟩ : la = (k : Int) ∧ ov = true := ⟨HL.out.1.trans hz.1, by rw [HL.out.2]; simpa using hz.2⟩
          clear hz HE HH
          rcases hE with rfl | rfl | rfl | rfl
          all_goals
            go_wp2_with fail
            go_region_held3 (fun W : World => W.cell? ⟨g, off + k * 6, none⟩ = some (.int .i64 th) ∧ W.cell? ⟨g, off + p * 6, none⟩ = some (.int .i64 th)) (first | assumption | (exact hS0) | go_keep) (fail)
            go_wp2_with fail
            go_ret2
            exact ⟨rfl, kr.drew⟩
        · have hEB : ¬ endB kd = true := by unfold endB; simp; omega
          have HF : Hid ((noteP q k ⟨th, kd, ad, wd, own, er⟩).kd = 5 ∧ (noteP q k ⟨th, kd, ad, wd, own, er⟩).th = th ∧ z = blkG (noteP q k ⟨th, kd, ad, wd, own, er⟩) (L.drop (k + 1)) (k + 1)) := by
            have h0 := HE.out
            rw [if_neg (by rw [HH.out.2]; simp), if_neg hEB] at h0
            exact ⟨noteP_goes HH.out.1 hEB, by rw [noteP_th]; exact HH.out.2, h0⟩
          have n6 : (kd == 6) = false := by rw [beq_eq_false_iff_ne]; omega
          have n7 : (kd == 7) = false := by rw [beq_eq_false_iff_ne]; omega
          have n8 : (kd == 8) = false := by rw [beq_eq_false_iff_ne]; omega
          have n9 : (kd == 9) = false := by rw [beq_eq_false_iff_ne]; omega
          clear hEB hE HE HH
          go_wp2_with fail
          go_region_held3 (fun W : World => W.cell? ⟨g, off + k * 6, none⟩ = some (.int .i64 th) ∧ W.cell? ⟨g, off + p * 6, none⟩ = some (.int .i64 th)) (first | assumption | (exact hS0) | go_keep) (fail)
          go_wp2_with fail
          go_roundw
          · exact ⟨k + 1, noteP q k ⟨th, kd, ad, wd, own, er⟩, by rw [noteP_la], by simp, by omega, by omega, HF.out, kr.drew⟩
          · simp [intOf]; omega
      · have HF : Hid (q.kd = 5 ∧ q.th = th0 ∧ z = blkG q (L.drop (k + 1)) (k + 1)) := by
          have h0 := HE.out
          rw [if_pos (by rw [HH.out.2]; exact ht)] at h0
          exact ⟨HH.out.1, HH.out.2, h0⟩
        clear HE HH
        go_wp2_with fail
        go_region_held3 (fun W : World => W.cell? ⟨g, off + k * 6, none⟩ = some (.int .i64 th) ∧ W.cell? ⟨g, off + p * 6, none⟩ = some (.int .i64 th0)) (first | assumption | (exact hS0) | go_keep) (fail)
        go_wp2_with fail
        go_roundw
        · exact ⟨k + 1, q, rfl, by simp, by omega, by omega, HF.out, kr.drew⟩
        · simp [intOf]; omega
    · obtain rfl : k = L.length := by omega
      obtain ⟨rfl, rfl⟩ : la = q.la ∧ ov = false := by
        have h0 := hh.out.2.2
        rw [List.drop_length, blkG] at h0
        rw [HL.out.1, HL.out.2, h0]; exact ⟨rfl, by simp [hh.out.1]⟩
      clear hh
      go_wp2_with fail
      go_ret2
      exact ⟨rfl, kr⟩
end Go.Proofs.YtjkileijkgbndaaDoor
