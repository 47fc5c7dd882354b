
/- Walks of note (package events). No statement of the seat is proved here. -/
import Derived.Test.YthgkbmfnidehbaaDoorEvK
namespace Go.Proofs.YthgkbmfnidehbaaDoor
open Go.RowKit Go.Shelf

set_option maxRecDepth 100000 in
set_option maxHeartbeats 4000000 in
theorem note_any (base g n cap : Nat) (L : List Ty) (j : Nat) (t : Ty) (at_ : Int) (e : Ev) (w : World) (h : OwnR Ty.cl 7 44 w base (.slice (some ⟨g, 0, none⟩) n cap) L) (hj : j < L.length) (ht : L[j] = t) (hr : 0 ≤ t.rd ∧ t.rd < 4611686018427387904) (hw : 0 ≤ t.wr ∧ t.wr < 4611686018427387904) :
    Calls Tryd.prog 24 #[.pointer (some ⟨g, j * 7, none⟩), .int .i64 at_, .agg e.cells] w fun ex w' => ex = .returned (.tuple #[]) ∧ OwnR Ty.cl 7 44 w' base (.slice (some ⟨g, 0, none⟩) n cap) (L.set j (noteT t at_ e)) ∧ Keeps (fun q => q = g) w w' := by
  obtain ⟨g', off, hgo, hc⟩ := (h.els ty_len).at j hj
  simp only [Option.some.injEq, Addr.mk.injEq, and_true] at hgo
  obtain ⟨rfl, rfl⟩ := hgo
  rw [ht] at hc
  obtain ⟨cap', cur, hv, -, hb, hsz⟩ : ∃ cap' cur, (Value.slice (some ⟨g, 0, none⟩) n cap) = .slice (some ⟨g, 0, none⟩) L.length cap' ∧ base ≤ g ∧ w.heap[g]? = some (.cells cur 44 (0, 0)) ∧ L.length * 7 ≤ cur.size := by
    obtain ⟨g2, cap', cur, h1, h2, h3, h4⟩ := h.at (by omega)
    simp only [Value.slice.injEq, Option.some.injEq, Addr.mk.injEq, and_true] at h1
    obtain ⟨rfl, rfl, rfl⟩ := h1
    exact ⟨cap, cur, rfl, h2, h3, h4⟩
  clear hv
  have hgl := lt_of_block hb
  have fz : ∀ x, w.frozen? ⟨g, x, none⟩ = false := fun x => frozen_of_block hb x
  obtain ⟨tt, fi, la, sn, how, rd, wr⟩ := t
  have c2 : w.cell? ⟨g, j * 7 + 2, none⟩ = some (.int .i64 la) := by simpa using hc 2 _ rfl
  have c3 : w.cell? ⟨g, j * 7 + 3, none⟩ = some (.int .u64 sn) := by simpa using hc 3 _ rfl
  have c4 : w.cell? ⟨g, j * 7 + 4, none⟩ = some (.int .i64 how) := by simpa using hc 4 _ rfl
  have c5 : w.cell? ⟨g, j * 7 + 5, none⟩ = some (.int .i64 rd) := by simpa using hc 5 _ rfl
  have c6 : w.cell? ⟨g, j * 7 + 6, none⟩ = some (.int .i64 wr) := by simpa using hc 6 _ rfl
  have f2 := fz (j * 7 + 2)
  have f3 := fz (j * 7 + 3)
  have f4 := fz (j * 7 + 4)
  have f5 := fz (j * 7 + 5)
  have f6 := fz (j * 7 + 6)
  clear fz hc hb hsz
  obtain ⟨th, kd, ad, wd, own, er⟩ := e
  have H1 := h.set ty_len j 2 ⟨tt, fi, at_, sn, how, rd, wr⟩ (.int .i64 at_) hj (by decide) (by rw [ht]; rfl)
  have kb : Keeps (fun q => q = g) w (w.setCell ⟨g, j * 7 + 2, none⟩ (.int .i64 at_)) := Keeps.setCell (S := fun q => q = g) (p := ⟨g, j * 7 + 2, none⟩) (Keeps.refl (fun q => q = g) w) (.inr rfl) (.int .i64 at_)
  have hj1 : j < (L.set j ⟨tt, fi, at_, sn, how, rd, wr⟩).length := by simpa using hj
  have H2 : Hid (∀ f y x, f < 7 → Ty.cl y = (Ty.cl ⟨tt, fi, at_, sn, how, rd, wr⟩).set f x → OwnR Ty.cl 7 44 (((w.setCell ⟨g, j * 7 + 2, none⟩ (.int .i64 at_)).setCell ⟨g, j * 7 + f, none⟩ x).alloc (.cells #[.int .i64 th, .int .i64 kd, .int .u64 ad, .int .u64 wd, .bool own, .int .i64 er] 29)) base (.slice (some ⟨g, 0, none⟩) n cap) (L.set j y) ∧ Keeps (fun q => q = g) w (((w.setCell ⟨g, j * 7 + 2, none⟩ (.int .i64 at_)).setCell ⟨g, j * 7 + f, none⟩ x).alloc (.cells #[.int .i64 th, .int .i64 kd, .int .u64 ad, .int .u64 wd, .bool own, .int .i64 er] 29))) := fun f y x hf hy => by
    have q := H1.set ty_len j f y x hj1 hf (by rw [List.getElem_set_self]; exact hy)
    rw [List.set_set] at q
    exact ⟨q.keeps ((Keeps.refl (fun _ => False) _).alloc _) (fun _ _ f => f), (Keeps.setCell (S := fun q => q = g) kb (.inr rfl) x).alloc _⟩
  have H1' : Hid (OwnR Ty.cl 7 44 ((w.setCell ⟨g, j * 7 + 2, none⟩ (.int .i64 at_)).alloc (.cells #[.int .i64 th, .int .i64 kd, .int .u64 ad, .int .u64 wd, .bool own, .int .i64 er] 29)) base (.slice (some ⟨g, 0, none⟩) n cap) (L.set j ⟨tt, fi, at_, sn, how, rd, wr⟩) ∧ Keeps (fun q => q = g) w ((w.setCell ⟨g, j * 7 + 2, none⟩ (.int .i64 at_)).alloc (.cells #[.int .i64 th, .int .i64 kd, .int .u64 ad, .int .u64 wd, .bool own, .int .i64 er] 29))) := ⟨H1.keeps ((Keeps.refl (fun _ => False) _).alloc _) (fun _ _ f => f), kb.alloc _⟩
  dsimp only at hr hw
  obtain ⟨r0, r1⟩ := hr
  obtain ⟨q0, q1⟩ := hw
  have rw1 : IntKind.i64.wrap (rd + 1) = rd + 1 := by rw [IntKind.wrap_i64]; omega
  have rw2 : IntKind.i64.wrap (wr + 1) = wr + 1 := by rw [IntKind.wrap_i64]; omega
  clear h H1 kb ht hj1
  show Calls Tryd.prog 24 #[.pointer (some ⟨g, j * 7, none⟩), .int .i64 at_, .agg #[.int .i64 th, .int .i64 kd, .int .u64 ad, .int .u64 wd, .bool own, .int .i64 er]] w _
  by_cases h1 : kd = 1
  · subst h1
    go_enter Tryd.func24, Tryd.ntmps24
    go_wp2_with fail
    go_end0
    exact ⟨rfl, H2.out 3 ⟨tt, fi, at_, wd, how, rd, wr⟩ (.int .u64 wd) (by decide) rfl⟩
  · by_cases h4 : kd = 4
    · subst h4
      go_enter Tryd.func24, Tryd.ntmps24
      go_wp2_with fail
      go_end0
      exact ⟨rfl, H2.out 3 ⟨tt, fi, at_, wd, how, rd, wr⟩ (.int .u64 wd) (by decide) rfl⟩
    · by_cases h2 : kd = 2
      · subst h2
        cases own
        · go_enter Tryd.func24, Tryd.ntmps24
          go_wp2_with fail
          go_end0
          exact ⟨rfl, H2.out 5 ⟨tt, fi, at_, sn, how, rd + 1, wr⟩ (.int .i64 (rd + 1)) (by decide) rfl⟩
        · go_enter Tryd.func24, Tryd.ntmps24
          go_wp2_with fail
          go_end0
          exact ⟨rfl, H1'.out⟩
      · by_cases h3 : kd = 3
        · subst h3
          go_enter Tryd.func24, Tryd.ntmps24
          go_wp2_with fail
          go_end0
          exact ⟨rfl, H2.out 6 ⟨tt, fi, at_, sn, how, rd, wr + 1⟩ (.int .i64 (wr + 1)) (by decide) rfl⟩
        · by_cases hE : 6 ≤ kd ∧ kd ≤ 9
          · have e0 : noteT ⟨tt, fi, la, sn, how, rd, wr⟩ at_ ⟨th, kd, ad, wd, own, er⟩ = ⟨tt, fi, at_, sn, kd, rd, wr⟩ := by simp [noteT, endB, h1, h4, h2, h3, hE]
            rw [e0]
            have h2' := fun k => H2.out 4 ⟨tt, fi, at_, sn, k, rd, wr⟩ (.int .i64 k) (by decide) rfl
            rcases (by omega : kd = 6 ∨ kd = 7 ∨ kd = 8 ∨ kd = 9) with rfl | rfl | rfl | rfl
            all_goals
              go_enter Tryd.func24, Tryd.ntmps24
              go_wp2_with fail
              go_end0
              exact ⟨rfl, h2' _⟩
          · have e0 : noteT ⟨tt, fi, la, sn, how, rd, wr⟩ at_ ⟨th, kd, ad, wd, own, er⟩ = ⟨tt, fi, at_, sn, how, rd, wr⟩ := by
              have : endB kd = false := by unfold endB; exact decide_eq_false hE
              simp [noteT, this, h1, h4, h2, h3]
            rw [e0]
            have h6 : ¬ kd = 6 := by omega
            have h7 : ¬ kd = 7 := by omega
            have h8 : ¬ kd = 8 := by omega
            have h9 : ¬ kd = 9 := by omega
            go_enter Tryd.func24, Tryd.ntmps24
            go_wp2_with fail
            go_end0
            exact ⟨rfl, H1'.out⟩
end Go.Proofs.YthgkbmfnidehbaaDoor
