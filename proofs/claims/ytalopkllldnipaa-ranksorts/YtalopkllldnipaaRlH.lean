
/- The walk of Clear (layer 24). No statement of the seat is proved here. -/
import Derived.Test.YtalopkllldnipaaRlG
namespace Go.Proofs.Ytalopkllldnipaa
open Go.RowKit

set_option maxRecDepth 100000 in
set_option maxHeartbeats 4000000 in
theorem clear_any {b g c : Nat} {m : Int} {r h0 e : Int} {s s1 : Wd} (heq : Hid (Wd.rclear r h0 s = ((m, e), s1))) (hh : isW h0) {w : World} (h : WdAt w b g c s) :
    Calls Try.prog 35 #[.iface 24 (.pointer (some ⟨b, 0, none⟩)), .int .u64 r, .int .u64 h0] w fun a w' => a = .returned (.tuple #[.int .u64 m, .int .i64 e]) ∧ WdAt w' b g c s1 ∧ Keeps (two b g) w w' := by
  obtain ⟨F, e1, s2, h1, h2, h3⟩ := bnd_step heq.out
  have HL := hid (And.intro h.ltb h.ltg)
  have HC := hid (allT_any (hid h1) hh h)
  have H2 := hid (And.intro h2 h3)
  clear h h1 h2 h3 heq
  go_enter Try.func35, Try.ntmps35
  go_wp2_with fail
  refine HC.out.mono ?_
  rintro a w1 ⟨v, rfl, h1, k1, g1⟩
  have HF := hid (And.intro h1 (And.intro k1 g1))
  clear HC h1 k1 g1
  by_cases he1 : e1 = 0
  rotate_left
  · go_wp2_with fail
    go_ret2
    obtain ⟨rfl, rfl, rfl⟩ := H2.out.2 he1
    exact ⟨rfl, HF.out.1, HF.out.2.1⟩
  subst he1
  obtain ⟨⟨⟩, e2, s3, h4, h5, h6⟩ := bnd_step (H2.out.1 rfl)
  obtain ⟨qs, p1, p2, p3, p4, p5⟩ := HF.out.2.2 rfl
  have HG := hid (And.intro HF.out.1 (And.intro HF.out.2.1 (And.intro p1 (And.intro p2 (And.intro p3 p5)))))
  have H4 := hid h4
  have H5 := hid (And.intro h5 h6)
  obtain ⟨va, vc, rfl⟩ : ∃ a n, v = .slice a F.length n := by
    obtain ⟨a, n, hv⟩ := p1.form
    exact ⟨a, n, by rw [hv, p2]⟩
  have hfew := p3
  clear p1 p2 p3 p4 p5 H2 HF h4 h5 h6
  go_wp2_with fail
  go_loopw [9, 26] (fun ev iv wr => ∃ n : Nat, iv = .int .i64 (n : Int) ∧ n ≤ F.length ∧ ev = .int .i64 0 ∧ ∃ sn, Hid (WdAt wr b g c sn ∧ Keeps (two b g) w wr ∧ Pr wr w.heap.size (.slice va F.length vc) qs ∧ (∀ (i q : Nat) (t : Tr), qs[i]? = some q → F[i]? = some t → TrAt wr q t) ∧ givesU r ((F.drop n).map Tr.at_) sn = (((), e2), s3))) (fun _ iv _ => F.length - (intOf iv).toNat)
  case atStart => exact ⟨0, rfl, Nat.zero_le _, rfl, s2, hid ⟨HG.out.1, HG.out.2.1, HG.out.2.2.1, HG.out.2.2.2.2.2, H4.out⟩⟩
  case round =>
    obtain ⟨n, rfl, hn, rfl, sn, hr⟩ := hrel
    by_cases hlt : n < F.length
    · have hlti : (n : Int) < F.length := by omega
      have hni : (0 : Int) ≤ n := by omega
      have hqn : n < qs.length := by rw [HG.out.2.2.2.1]; exact hlt
      obtain ⟨gq, rfl, hcq⟩ := hr.out.2.2.1.at n hqn
      have hq : qs[n]? = some qs[n] := List.getElem?_eq_getElem hqn
      have hdr : F.drop n = F[n] :: F.drop (n + 1) := List.drop_eq_getElem_cons hlt
      have ht : F[n]? = some F[n] := List.getElem?_eq_getElem hlt
      generalize F[n] = t at hdr ht
      generalize qs[n] = qr at hcq hq
      replace hcq : wr.cell? ⟨gq, n, none⟩ = some (.pointer (some ⟨qr, 0, none⟩)) := hcq
      have hqt := hr.out.2.2.2.1 n qr t hq ht
      have hgv := hr.out.2.2.2.2
      rw [hdr] at hgv
      obtain ⟨⟨⟩, e4, s5, h10, h11, h12⟩ := bnd_step (show bnd (giveU r t.at_ 5) (fun _ => givesU r ((F.drop (n + 1)).map Tr.at_)) () sn = (((), e2), s3) from hgv)
      have HC := hid (give_u (a := r) (n := 5) (hid h10) hqt.wat hr.out.1)
      have c0 := hqt.cells.1
      have HWK := hid (And.intro h11 h12)
      clear hqt hgv hdr ht hq hqn h10 h11 h12
      go_wp2_with fail
      refine HC.out.mono ?_
      rintro a w2 ⟨rfl, h2, k2⟩
      have HY : Hid (WdAt w2 b g c s5 ∧ Keeps (two b g) w w2 ∧ Pr w2 w.heap.size (.slice (some ⟨gq, 0, none⟩) F.length vc) qs ∧ (∀ (i q : Nat) (t : Tr), qs[i]? = some q → F[i]? = some t → TrAt w2 q t)) := by
        obtain ⟨a1, a2, a3, a4, a5⟩ := hr.out
        obtain ⟨b1, b2, b3, b4, b5, b6⟩ := HG.out
        have hl := HL.out
        refine hid ⟨h2, a2.trans k2, a3.keeps k2 (fun i hi f => by have := (a3.block hi).1; rcases f with f | f <;> omega), fun i q t h1 h3 => (a4 i q t h1 h3).kept k2 (fun f => ?_)⟩
        rcases f with f | f
        · exact ne_ty (a4 i q t h1 h3).blk a1.box (by decide) f
        · rcases a1.row with ⟨_, e⟩ | ⟨_, cur, e, _⟩
          · exact ne_ty (a4 i q t h1 h3).blk a1.box (by decide) (f.trans e)
          · exact ne_ty (a4 i q t h1 h3).blk e (by decide) f
      clear HC h2 k2 hcq c0 hr
      by_cases he4 : e4 = 0
      rotate_left
      · go_wp2_with fail
        go_ret2
        obtain ⟨rfl, rfl, -⟩ := HWK.out.2 he4
        obtain ⟨rfl, rfl, rfl⟩ := H5.out.2 he4
        exact ⟨rfl, HY.out.1, HY.out.2.1⟩
      subst he4
      go_wp2_with fail
      go_roundw
      case rel => exact ⟨n + 1, by simp, by omega, rfl, s5, hid ⟨HY.out.1, HY.out.2.1, HY.out.2.2.1, HY.out.2.2.2, HWK.out.1 (by first | rfl | trivial)⟩⟩
      case measure => simp [intOf]; omega
    · obtain rfl : n = F.length := by omega
      have hgv := hr.out.2.2.2.2
      rw [List.drop_length] at hgv
      obtain ⟨-, rfl, rfl⟩ := rtn_eq (show rtn () sn = (((), e2), s3) from hgv)
      have H9 : (if F = [] then rtn 0 else bnd (putsU h0 [0, 0]) (fun _ => rtn (F.length : Int)) 0) s3 = ((m, e), s1) := H5.out.1 rfl
      clear hgv hlt
      by_cases hF : F = []
      · subst hF
        rw [if_pos rfl] at H9
        obtain ⟨rfl, rfl, rfl⟩ := rtn_eq H9
        clear H9 H4 H5
        go_wp2_with fail
        go_ret2
        exact ⟨rfl, hr.out.1, hr.out.2.1⟩
      rw [if_neg hF] at H9
      obtain ⟨⟨⟩, e5, s6, h10, h11, h12⟩ := bnd_step H9
      have hb : Blk (wr.alloc (.cells #[.int .u64 0, .int .u64 0] 25)) wr.heap.size 25 (wordsV [0, 0]).toArray := blk_new wr _ _
      have HC := hid (put_r (l := [0, 0]) (v := .slice (some ⟨wr.heap.size, 0, none⟩) 2 2) (hid h10) hh (oat2 zero_isW zero_isW) (by simp) (hr.out.1.kept (keeps_new _ _) (fun f => f) (fun f => f)) (hb.lies 2) (slice_ne (by have := HL.out; have := hr.out.2.1.size; omega) _ _ _))
      have H6 := hid (And.intro h11 h12)
      have hpos : 0 < F.length := List.length_pos_iff.2 hF
      have hposi : (0 : Int) < F.length := by omega
      have hgt : (F.length : Int) > 0 := hposi
      clear hb h10 h11 h12 H9 hF H4 H5
      go_wp2_with fail
      refine HC.out.mono ?_
      rintro a w2 ⟨rfl, h2, k2⟩
      have HY := hid (And.intro h2 ((hr.out.2.1.trans ((keeps_new wr (.cells #[.int .u64 0, .int .u64 0] 25)).mono (fun _ _ f => f.elim))).trans k2))
      clear HC h2 k2 hr
      by_cases he5 : e5 = 0
      · subst he5
        go_wp2_with fail
        go_ret2
        obtain ⟨rfl, rfl, rfl⟩ := rtn_eq (H6.out.1 (by first | rfl | trivial))
        exact ⟨rfl, HY.out.1, HY.out.2⟩
      · go_wp2_with fail
        go_ret2
        obtain ⟨rfl, rfl, rfl⟩ := H6.out.2 he5
        exact ⟨rfl, HY.out.1, HY.out.2⟩
end Go.Proofs.Ytalopkllldnipaa
