/-
  No statement of the seat is proved here. (Several texts in one: EvL, EvM.)
-/
import Derived.Test.YtjmmjkoloioddaaDoorM09WiF

/- Walks of note (package events). No statement of the seat is proved here. -/
namespace Go.Proofs.YtjmmjkoloioddaaDoor
open Go.RowKit Go.Shelf

set_option maxRecDepth 100000 in
set_option maxHeartbeats 4000000 in
theorem note_any (base g n cap : Nat) (L : List Ty) (j : Nat) (t : Ty) (at_ : Int) (e : Ev) (w : World) (h : OwnR Ty.cl 7 38 w base (.slice (some ⟨g, 0, none⟩) n cap) L) (hj : j < L.length) (ht : L[j] = t) (hr : 0 ≤ t.rd ∧ t.rd < 4611686018427387904) (hw : 0 ≤ t.wr ∧ t.wr < 4611686018427387904) :
    Calls Tryd.prog 41 #[.pointer (some ⟨g, j * 7, none⟩), .int .i64 at_, .agg e.cells] w fun ex w' => ex = .returned (.tuple #[]) ∧ OwnR Ty.cl 7 38 w' base (.slice (some ⟨g, 0, none⟩) n cap) (L.set j (noteT t at_ e)) ∧ Keeps (fun q => q = g) w w' := by
  obtain ⟨g', off, hgo, hc⟩ := (h.els ty_len).at j hj
  simp only [Option.some.injEq, Addr.mk.injEq, and_true] at hgo
  obtain ⟨rfl, rfl⟩ := hgo
  rw [ht] at hc
  obtain ⟨cap', cur, hv, -, hb, hsz⟩ : ∃ cap' cur, (Value.slice (some ⟨g, 0, none⟩) n cap) = .slice (some ⟨g, 0, none⟩) L.length cap' ∧ base ≤ g ∧ w.heap[g]? = some (.cells cur 38 (0, 0)) ∧ L.length * 7 ≤ cur.size := by
    obtain ⟨g2, cap', cur, h1, h2, h3, h4⟩ := h.at (by omega)
    simp only [Value.slice.injEq, Option.some.injEq, Addr.mk.injEq, and_true] at h1
    obtain ⟨rfl, rfl, rfl⟩ := h1
    exact ⟨cap, cur, rfl, h2, h3, h4⟩
  clear hv
  have hgl := lt_of_block hb
  have fz : ∀ x, w.frozen? ⟨g, x, none⟩ = false := fun x => frozen_of_block hb x
  obtain ⟨tt, fi, la, sn, how, rd, wr⟩ := t
  have c2 : w.cell? ⟨g, j * 7 + 2, none⟩ = some (.int .i64 la) := by simpa using hc 2 _ rfl
  have c3 : w.cell? ⟨g, j * 7 + 3, none⟩ = some (.int .u64 sn) := by simpa using hc 3 _ rfl
  have c4 : w.cell? ⟨g, j * 7 + 4, none⟩ = some (.int .i64 how) := by simpa using hc 4 _ rfl
  have c5 : w.cell? ⟨g, j * 7 + 5, none⟩ = some (.int .i64 rd) := by simpa using hc 5 _ rfl
  have c6 : w.cell? ⟨g, j * 7 + 6, none⟩ = some (.int .i64 wr) := by simpa using hc 6 _ rfl
  have f2 := fz (j * 7 + 2)
  have f3 := fz (j * 7 + 3)
  have f4 := fz (j * 7 + 4)
  have f5 := fz (j * 7 + 5)
  have f6 := fz (j * 7 + 6)
  clear fz hc hb hsz
  obtain ⟨th, kd, ad, wd, own, er⟩ := e
  have H1 := h.set ty_len j 2 ⟨tt, fi, at_, sn, how, rd, wr⟩ (.int .i64 at_) hj (by decide) (by rw [ht]; rfl)
  have kb : Keeps (fun q => q = g) w (w.setCell ⟨g, j * 7 + 2, none⟩ (.int .i64 at_)) := Keeps.setCell (S := fun q => q = g) (p := ⟨g, j * 7 + 2, none⟩) (Keeps.refl (fun q => q = g) w) (.inr rfl) (.int .i64 at_)
  have hj1 : j < (L.set j ⟨tt, fi, at_, sn, how, rd, wr⟩).length := by simpa using hj
  have H2 : Hid (∀ f y x, f < 7 → Ty.cl y = (Ty.cl ⟨tt, fi, at_, sn, how, rd, wr⟩).set f x → OwnR Ty.cl 7 38 (((w.setCell ⟨g, j * 7 + 2, none⟩ (.int .i64 at_)).setCell ⟨g, j * 7 + f, none⟩ x).alloc (.cells #[.int .i64 th, .int .i64 kd, .int .u64 ad, .int .u64 wd, .bool own, .int .i64 er] 44)) base (.slice (some ⟨g, 0, none⟩) n cap) (L.set j y) ∧ Keeps (fun q => q = g) w (((w.setCell ⟨g, j * 7 + 2, none⟩ (.int .i64 at_)).setCell ⟨g, j * 7 + f, none⟩ x).alloc (.cells #[.int .i64 th, .int .i64 kd, .int .u64 ad, .int .u64 wd, .bool own, .int .i64 er] 44))) := fun f y x hf hy => by
    have q := H1.set ty_len j f y x hj1 hf (by rw [List.getElem_set_self]; exact hy)
    rw [List.set_set] at q
    exact ⟨q.keeps ((Keeps.refl (fun _ => False) _).alloc _) (fun _ _ f => f), (Keeps.setCell (S := fun q => q = g) kb (.inr rfl) x).alloc _⟩
  have H1' : Hid (OwnR Ty.cl 7 38 ((w.setCell ⟨g, j * 7 + 2, none⟩ (.int .i64 at_)).alloc (.cells #[.int .i64 th, .int .i64 kd, .int .u64 ad, .int .u64 wd, .bool own, .int .i64 er] 44)) base (.slice (some ⟨g, 0, none⟩) n cap) (L.set j ⟨tt, fi, at_, sn, how, rd, wr⟩) ∧ Keeps (fun q => q = g) w ((w.setCell ⟨g, j * 7 + 2, none⟩ (.int .i64 at_)).alloc (.cells #[.int .i64 th, .int .i64 kd, .int .u64 ad, .int .u64 wd, .bool own, .int .i64 er] 44))) := ⟨H1.keeps ((Keeps.refl (fun _ => False) _).alloc _) (fun _ _ f => f), kb.alloc _⟩
  dsimp only at hr hw
  obtain ⟨r0, r1⟩ := hr
  obtain ⟨q0, q1⟩ := hw
  have rw1 : IntKind.i64.wrap (rd + 1) = rd + 1 := by rw [IntKind.wrap_i64]; omega
  have rw2 : IntKind.i64.wrap (wr + 1) = wr + 1 := by rw [IntKind.wrap_i64]; omega
  clear h H1 kb ht hj1
  show Calls Tryd.prog 41 #[.pointer (some ⟨g, j * 7, none⟩), .int .i64 at_, .agg #[.int .i64 th, .int .i64 kd, .int .u64 ad, .int .u64 wd, .bool own, .int .i64 er]] w _
  by_cases h1 : kd = 1
  · subst h1
    go_enter Tryd.func41, Tryd.ntmps41
    go_wp2_with fail
    go_end0
    exact ⟨rfl, H2.out 3 ⟨tt, fi, at_, wd, how, rd, wr⟩ (.int .u64 wd) (by decide) rfl⟩
  · by_cases h4 : kd = 4
    · subst h4
      go_enter Tryd.func41, Tryd.ntmps41
      go_wp2_with fail
      go_end0
      exact ⟨rfl, H2.out 3 ⟨tt, fi, at_, wd, how, rd, wr⟩ (.int .u64 wd) (by decide) rfl⟩
    · by_cases h2 : kd = 2
      · subst h2
        cases own
        · go_enter Tryd.func41, Tryd.ntmps41
          go_wp2_with fail
          go_end0
          exact ⟨rfl, H2.out 5 ⟨tt, fi, at_, sn, how, rd + 1, wr⟩ (.int .i64 (rd + 1)) (by decide) rfl⟩
        · go_enter Tryd.func41, Tryd.ntmps41
          go_wp2_with fail
          go_end0
          exact ⟨rfl, H1'.out⟩
      · by_cases h3 : kd = 3
        · subst h3
          go_enter Tryd.func41, Tryd.ntmps41
          go_wp2_with fail
          go_end0
          exact ⟨rfl, H2.out 6 ⟨tt, fi, at_, sn, how, rd, wr + 1⟩ (.int .i64 (wr + 1)) (by decide) rfl⟩
        · by_cases hE : 6 ≤ kd ∧ kd ≤ 9
          · have e0 : noteT ⟨tt, fi, la, sn, how, rd, wr⟩ at_ ⟨th, kd, ad, wd, own, er⟩ = ⟨tt, fi, at_, sn, kd, rd, wr⟩ := by simp [noteT, endB, h1, h4, h2, h3, hE]
            rw [e0]
            have h2' := fun k => H2.out 4 ⟨tt, fi, at_, sn, k, rd, wr⟩ (.int .i64 k) (by decide) rfl
            rcases (by omega : kd = 6 ∨ kd = 7 ∨ kd = 8 ∨ kd = 9) with rfl | rfl | rfl | rfl
            all_goals
              go_enter Tryd.func41, Tryd.ntmps41
              go_wp2_with fail
              go_end0
              exact ⟨rfl, h2' _⟩
          · have e0 : noteT ⟨tt, fi, la, sn, how, rd, wr⟩ at_ ⟨th, kd, ad, wd, own, er⟩ = ⟨tt, fi, at_, sn, how, rd, wr⟩ := by
              have : endB kd = false := by unfold endB; exact decide_eq_false hE
              simp [noteT, this, h1, h4, h2, h3]
            rw [e0]
            have h6 : ¬ kd = 6 := by omega
            have h7 : ¬ kd = 7 := by omega
            have h8 : ¬ kd = 8 := by omega
            have h9 : ¬ kd = 9 := by omega
            go_enter Tryd.func41, Tryd.ntmps41
            go_wp2_with fail
            go_end0
            exact ⟨rfl, H1'.out⟩
end Go.Proofs.YtjmmjkoloioddaaDoor


/- A walk of Tries (package events). No statement of the seat is proved here. -/
namespace Go.Proofs.YtjmmjkoloioddaaDoor
open Go.RowKit Go.Shelf

/-- The numbers of open attempts, as they lie. -/
def Op8 (w : World) (ob : Nat) (o : List Nat) : Prop := o.length = 8 ∧ ∃ cs, w.heap[ob]? = some (.cells cs 92 (0, 0)) ∧ cs.size = 8 ∧ ∀ i, i < 8 → cs[i]? = some (.int .i64 (((o[i]?).getD 0 : Nat) : Int))
theorem Op8.keeps {w w' : World} {ob : Nat} {o : List Nat} {S : Nat → Prop} (h : Op8 w ob o) (k : Keeps S w w') (hs : ¬ S ob) : Op8 w' ob o := by
  obtain ⟨h0, cs, h1, h2⟩ := h
  exact ⟨h0, cs, (k.block ob (lt_of_block h1) hs).trans h1, h2⟩
theorem Op8.set {w : World} {ob : Nat} {o : List Nat} (h : Op8 w ob o) (i : Nat) (hi : i < 8) (x : Nat) : Op8 (w.setCell ⟨ob, i, none⟩ (.int .i64 (x : Int))) ob (o.set i x) := by
  obtain ⟨h0, cs, h1, h2, h3⟩ := h
  refine ⟨by simpa using h0, _, block_set h1 _ _, by simpa using h2, fun j hj => ?_⟩
  rw [List.getElem?_set]
  by_cases e : i = j
  · subst e
    rw [Array.getElem?_setIfInBounds_self_of_lt (by omega)]
    simp [h0, hi]
  · rw [Array.getElem?_setIfInBounds_ne e, h3 j hj]
    simp [e]
theorem OwnR.lowE {α : Type} {c : α → List Value} {sz : Nat} {t : TypeId} {w : World} {base b : Nat} {v : Value} {L : List α} (h : OwnR c sz t w base v L) (hb : b ≤ base) : OwnR c sz t w b v L := by
  refine ⟨⟨h.own.1, ?_⟩, Nat.le_trans hb h.base⟩
  rcases h.own.2 with q | ⟨g, cap, cur, q1, q2, q3⟩
  · exact .inl q
  · exact .inr ⟨g, cap, cur, q1, Nat.le_trans hb q2, q3⟩
/-- What stands of the attempts while they are told. -/
structure TAt (wr : World) (base ob : Nat) (v : Value) (T : Tr) (k : Nat) : Prop where
  own : OwnR Ty.cl 7 38 wr base v T.l
  op : Op8 wr ob T.o
  at_ : ∀ i, i < 8 → T.at i ≤ T.l.length
  cnt : ∀ t ∈ T.l, (0 ≤ t.rd ∧ t.rd ≤ k) ∧ (0 ≤ t.wr ∧ t.wr ≤ k)
theorem stepA {T : Tr} {k i : Nat} {e : Ev} (h1 : e.kd = 1) (hi : e.th = i) (h8 : i < 8) (ho : T.o.length = 8) : stepT T k e = ⟨(T.l ++ [(⟨e.th, k, 0, 0, 0, 0, 0⟩ : Ty)]).set T.l.length (noteT ⟨e.th, k, 0, 0, 0, 0, 0⟩ k e), T.o.set i (T.l.length + 1)⟩ := by
  have hti : e.th.toNat = i := by omega
  unfold stepT openT
  rw [if_pos h1, hti]
  unfold markT Tr.at
  dsimp only
  rw [hti, List.getElem?_set_self (by omega)]
  simp only [Option.getD_some, Nat.add_eq_zero_iff, Nat.one_ne_zero, and_false, if_false, Nat.add_sub_cancel]
  rw [List.getElem?_append_right (Nat.le_refl _)]
  simp only [Nat.sub_self, List.getElem?_cons_zero, Option.getD_some]
  have hw : (noteT ⟨e.th, (k : Int), 0, 0, 0, 0, 0⟩ k e).how = 0 := by unfold noteT endB; simp [h1]
  rw [if_pos hw]
theorem stepB {T : Tr} {k i : Nat} {e : Ev} (h1 : e.kd ≠ 1) (hi : e.th = i) (ha : T.at i = 0) : stepT T k e = T := by
  have hti : e.th.toNat = i := by omega
  unfold stepT openT
  rw [if_neg h1]
  unfold markT
  rw [hti, if_pos ha]
theorem stepC {T : Tr} {k i j : Nat} {e : Ev} (h1 : e.kd ≠ 1) (hi : e.th = i) (ha : T.at i = j + 1) (hj : j < T.l.length) (hh : (noteT (T.l[j]) k e).how = 0) : stepT T k e = ⟨T.l.set j (noteT (T.l[j]) k e), T.o⟩ := by
  have hti : e.th.toNat = i := by omega
  unfold stepT openT
  rw [if_neg h1]
  unfold markT
  rw [hti, ha, if_neg (by omega)]
  simp only [Nat.add_sub_cancel, List.getElem?_eq_getElem hj, Option.getD_some]
  rw [if_pos hh]
theorem stepD {T : Tr} {k i j : Nat} {e : Ev} (h1 : e.kd ≠ 1) (hi : e.th = i) (ha : T.at i = j + 1) (hj : j < T.l.length) (hh : (noteT (T.l[j]) k e).how ≠ 0) : stepT T k e = ⟨T.l.set j (noteT (T.l[j]) k e), T.o.set i 0⟩ := by
  have hti : e.th.toNat = i := by omega
  unfold stepT openT
  rw [if_neg h1]
  unfold markT
  rw [hti, ha, if_neg (by omega)]
  simp only [Nat.add_sub_cancel, List.getElem?_eq_getElem hj, Option.getD_some]
  rw [if_neg hh]
theorem triesF_take {L : List Ev} {k : Nat} (hk : k < L.length) : triesF tr0 (L.take (k + 1)) 0 = stepT (triesF tr0 (L.take k) 0) k (L[k]) := by
  rw [List.take_succ_eq_append_getElem hk, triesF_append]
  simp only [triesF, List.length_take]
  rw [show 0 + min k L.length = k by omega]
theorem mem_set_or {α : Type} {l : List α} {i : Nat} {a x : α} (h : x ∈ l.set i a) : x ∈ l ∨ x = a := List.mem_or_eq_of_mem_set h
theorem chk_formed : ∀ (h : List Ev) (S : St) (k : Nat), (chk S h k).2 = 0 → ∀ e ∈ h, formedE e = true
  | [], _, _, _, e, he => by simp at he
  | x :: h, S, k, hc, e, he => by
    rw [chk] at hc
    by_cases hx : errE S x = 0
    · rw [if_pos hx] at hc
      rcases List.mem_cons.1 he with rfl | he
      · exact (err_ok hx).1
      · exact chk_formed h _ _ hc e he
    · rw [if_neg hx] at hc; exact absurd hc hx
theorem noteT_cnt {t : Ty} {a : Int} {e : Ev} {k : Nat} (h : (0 ≤ t.rd ∧ t.rd ≤ k) ∧ (0 ≤ t.wr ∧ t.wr ≤ k)) : (0 ≤ (noteT t a e).rd ∧ (noteT t a e).rd ≤ (k + 1 : Nat)) ∧ (0 ≤ (noteT t a e).wr ∧ (noteT t a e).wr ≤ (k + 1 : Nat)) := by
  unfold noteT
  dsimp only
  refine ⟨?_, ?_⟩ <;> split <;> omega
theorem cells7 (t : Ty) : (#[.int .i64 t.th, .int .i64 t.fi, .int .i64 t.la, .int .u64 t.sn, .int .i64 t.how, .int .i64 t.rd, .int .i64 t.wr] : Array Value) = (Ty.cl t).toArray := rfl

set_option maxRecDepth 100000 in
set_option maxHeartbeats 8000000 in
theorem tries_any (v : Value) (L : List Ev) (w : World) (hv : EvsAt w v L) (hg : Gv w) (h8 : 2 ≤ w.heap.size) (hB : (checkL L).2 = 0 → ∀ k, k < L.length → ((triesF tr0 (L.take k) 0).l.length + 1) * 56 ≤ 140737488355328) :
    Calls Tryd.prog 26 #[v] w fun ex w' => ∃ tv, ex = .returned (.tuple #[tv, .agg (odV (checkL L).1 (checkL L).2)]) ∧ OwnR Ty.cl 7 38 w' w.heap.size tv (if (checkL L).2 = 0 then triesL L else []) ∧ Keeps (fun _ => False) w w' := by
  have hbig := hv.big
  have CK := check_any v L
  have hch := chk_yes L st0 0
  have hfm := chk_formed L st0 0
  change (checkL L).2 = 0 → checkL L = (-1, 0) at hch
  change (checkL L).2 = 0 → _ at hfm
  have HV : Hid (∀ X, Keeps (fun _ => False) w X → EvsAt X v L ∧ Gv X) := fun X k => ⟨hv.keeps k, hg.keeps k⟩
  obtain ⟨a, cap, rfl, hcap⟩ := hv.els.shape
  clear hv hg
  have k0 := (Keeps.refl (fun _ => False) w).alloc (.cells (odV 0 0) 28)
  have b0 : (w.alloc (.cells (odV 0 0) 28)).heap[w.heap.size]? = some (.cells (odV 0 0) 28 (0, 0)) := (MapKept.heap_alloc w _).1
  have CC := CK (w.alloc (.cells (odV 0 0) 28)) (HV.out _ k0).1 (HV.out _ k0).2 (by simp; omega)
  unfold odV at k0 b0 CC
  generalize hcl : checkL L = cl at *
  obtain ⟨ca, ce⟩ := cl
  dsimp only at *
  by_cases hce : ce = 0
  · subst hce
    obtain ⟨hca, -⟩ := Prod.mk.inj (hch rfl)
    have hfm2 := hfm rfl
    have hB2 := hB rfl
    subst hca
    rw [if_pos rfl]
    clear hch hfm hB CK
    go_enter Tryd.func26, Tryd.ntmps26
    go_wp2_with fail
    refine CC.mono ?_
    rintro ex w1 ⟨rfl, k1⟩
    have K1 := k0.trans k1
    have B1 := (k1.block _ (lt_of_block b0) (fun f => f)).trans b0
    clear CC k0 k1 b0
    have kA := (Keeps.refl (fun _ => False) w1).alloc (.cells #[.int .i64 (-1), .int .i64 0] 28)
    have bA := (MapKept.heap_alloc w1 (.cells #[.int .i64 (-1), .int .i64 0] 28)).1
    have B2 := (kA.block _ (lt_of_block B1) (fun f => f)).trans B1
    have hlt1 := lt_of_block B1
    go_wp2_with fail
    obtain ⟨ob, hob⟩ : ∃ ob, ob = w1.heap.size + 1 := ⟨_, rfl⟩
    obtain ⟨N, hN⟩ : ∃ N, N = w1.heap.size := ⟨_, rfl⟩
    obtain ⟨bs, hbs⟩ : ∃ bs, bs = w1.heap.size + 2 := ⟨_, rfl⟩
    rw [← hob, ← hN]
    have hNw : w.heap.size < N := by omega
    have hNo : N < ob := by omega
    have hob2 : ob < bs := by omega
    go_loopw [5, 18] (fun x u wr => ∃ (k : Nat) (T : Tr), u = .int .i64 k ∧ k ≤ L.length ∧ Hid (TAt wr bs ob x T k ∧ T = triesF tr0 (L.take k) 0) ∧ wr.heap[w.heap.size]? = some (.cells (odV 0 0) 28 (0, 0)) ∧ wr.heap[N]? = some (.cells (odV (-1) 0) 28 (0, 0)) ∧ Keeps (fun _ => False) w wr) (fun _ u _ => L.length - (intOf u).toNat)
    case atStart =>
      have kB := (Keeps.refl (fun _ => False) (w1.alloc (.cells #[.int .i64 (-1), .int .i64 0] 28))).alloc (.cells #[.int .i64 0, .int .i64 0, .int .i64 0, .int .i64 0, .int .i64 0, .int .i64 0, .int .i64 0, .int .i64 0] 92)
      have bB := (MapKept.heap_alloc (w1.alloc (.cells #[.int .i64 (-1), .int .i64 0] 28)) (.cells #[.int .i64 0, .int .i64 0, .int .i64 0, .int .i64 0, .int .i64 0, .int .i64 0, .int .i64 0, .int .i64 0] 92)).1
      rw [show (w1.alloc (.cells #[.int .i64 (-1), .int .i64 0] 28)).heap.size = w1.heap.size + 1 by simp] at bB
      rw [← hob] at bB
      rw [← hN] at bA
      refine ⟨0, tr0, rfl, Nat.zero_le _, ⟨⟨OwnR.nilB _ _ _ _ _ (by simp; omega), ⟨rfl, _, bB, rfl, fun i hi => ?_⟩, fun i hi => ?_, fun t ht => by simp [tr0] at ht⟩, by simp [triesF]⟩, (kB.block _ (lt_of_block B2) (fun f => f)).trans B2, (kB.block _ (lt_of_block bA) (fun f => f)).trans bA, (K1.trans kA).trans kB⟩
      · rcases (by omega : i = 0 ∨ i = 1 ∨ i = 2 ∨ i = 3 ∨ i = 4 ∨ i = 5 ∨ i = 6 ∨ i = 7) with rfl | rfl | rfl | rfl | rfl | rfl | rfl | rfl <;> rfl
      · rcases (by omega : i = 0 ∨ i = 1 ∨ i = 2 ∨ i = 3 ∨ i = 4 ∨ i = 5 ∨ i = 6 ∨ i = 7) with rfl | rfl | rfl | rfl | rfl | rfl | rfl | rfl <;> decide
    case round =>
      clear B1 K1 kA bA B2 hob hN hbs hlt1
      obtain ⟨k, T, rfl, hk, hh, br1, br2, kr⟩ := hrel
      by_cases hlt : k < L.length
      · obtain ⟨g, off, rfl, x0, x1, x2, x3, x4, x5⟩ := (HV.out wr kr).1.at k hlt
        obtain ⟨t0, t8, q0, q1⟩ := formed_in (hfm2 _ (List.getElem_mem hlt))
        have hst := triesF_take hlt
        have hbk := hB2 k hlt
        rw [← hh.out.2] at hst hbk
        generalize hev : L[k]'hlt = e at *
        clear hev hfm2 hB2
        obtain ⟨i, hi⟩ : ∃ i : Nat, e.th = i := ⟨e.th.toNat, by omega⟩
        have hi8 : i < 8 := by omega
        have HT := hh.out.1
        have hown := HT.own
        obtain ⟨ho8, cs, ob1, ob2, ob3⟩ := HT.op
        have hobl := lt_of_block ob1
        have co : wr.cell? ⟨ob, i, none⟩ = some (.int .i64 ((T.at i : Nat) : Int)) := by rw [cell_of_block ob1, ob3 i hi8]; rfl
        have fo : wr.frozen? ⟨ob, i, none⟩ = false := frozen_of_block ob1 _
        have hop : Op8 wr (ob) T.o := HT.op
        have hat := HT.at_
        have hcnt := HT.cnt
        have hki : (k : Int) < L.length := by omega
        have hk0 : (0 : Int) ≤ k := by omega
        have hi0 : (0 : Int) ≤ i := by omega
        have hi8' : (i : Int) < 8 := by omega
        have SA := fun h => stepA (T := T) (k := k) (e := e) h hi hi8 ho8
        have SB := fun h a => stepB (T := T) (k := k) (e := e) h hi a
        have SC := fun h j a => stepC (T := T) (k := k) (e := e) (j := j) h hi a
        have SD := fun h j a => stepD (T := T) (k := k) (e := e) (j := j) h hi a
        have NT := fun W n cp g2 (Q : List Ty) j t h hj ht hr hw => note_any (bs) g2 n cp Q j t (k : Int) e W h hj ht hr hw
        have ka := (Keeps.refl (fun _ => False) wr).alloc (.cells e.cells 44)
        have ba := (MapKept.heap_alloc wr (.cells e.cells 44)).1
        have oa := hown.keeps ka (fun _ _ f => f)
        have hKl : (k : Int) < 4611686018427387904 := by omega
        obtain ⟨th, kd, ad, wd, own, er⟩ := e
        dsimp only at hi x0 x1 x2 x3 x4 x5 ka ba oa q0 q1 SA SB SC SD NT
        subst hi
        clear t0 t8 ob1 ob2 ob3
        by_cases h1 : kd = 1
        · subst h1
          rw [SA rfl] at hst
          clear SA SB SC SD
          obtain ⟨v', w2, r1, r2, r3⟩ := oa.push (P := Tryd.prog) (ts := 56) (ty := 56) ty_len ty_one (by decide) Tryd.underlying56 info_ty rfl (by decide) ⟨(i : Int), (k : Int), 0, 0, 0, 0, 0⟩ (cs := #[.int .i64 (i : Int), .int .i64 (k : Int), .int .i64 0, .int .u64 0, .int .i64 0, .int .i64 0, .int .i64 0]) rfl hbk
          obtain ⟨g2, cap2, cur2, hv2, hg2, hb2, hs2⟩ := r2.at (by simp)
          rw [List.length_append, List.length_singleton] at hv2
          subst hv2
          clear hh
          rw [show (wr.alloc (.cells #[.int .i64 (i : Int), .int .i64 1, .int .u64 ad, .int .u64 wd, .bool own, .int .i64 er] 44)).heap.size = wr.heap.size + 1 by simp] at r1
          have HR : Hid ((Builtin.append_ #[56, 56] 56 #[u5, .slice (some ⟨wr.heap.size + 1, 0, none⟩) 1 1]).run Tryd.prog ((wr.alloc (.cells #[.int .i64 (i : Int), .int .i64 1, .int .u64 ad, .int .u64 wd, .bool own, .int .i64 er] 44)).alloc (.cells #[.int .i64 (i : Int), .int .i64 (k : Int), .int .i64 0, .int .u64 0, .int .i64 0, .int .i64 0, .int .i64 0] 38)) = .ok _ w2) := r1
          have HS : Hid (triesF tr0 (L.take (k + 1)) 0 = _) := hst
          have HX : Hid ((∀ i, i < 8 → T.at i ≤ T.l.length) ∧ (∀ t ∈ T.l, (0 ≤ t.rd ∧ t.rd ≤ k) ∧ (0 ≤ t.wr ∧ t.wr ≤ k)) ∧ T.o.length = 8) := ⟨hat, hcnt, ho8⟩
          have hnl : T.l.length < 1152921504606846976 := by omega
          clear hst hat hcnt ho8 hbk
          obtain ⟨n, hn⟩ : ∃ n, n = T.l.length := ⟨_, rfl⟩
          have HN : Hid (n = T.l.length) := hn
          rw [← hn] at HR r2 r3 hnl
          clear hn
          have hn1 : ((n : Int) + 1) < 4611686018427387904 := by omega
          have hn0 : (0 : Int) ≤ n := by omega
          have hnz : ¬ ((n : Int) + 1 = 0) := by omega
          have K2 : Keeps (fun q => bs ≤ q) wr w2 := (ka.mono (fun _ _ f => f.elim)).trans (r3.keeps.mono (fun q _ hq => (own_block oa.own hq).2))
          have e2 := (r3.keeps.block _ (lt_of_block ba) (fun hq => by have := (own_block hown.own hq).1; omega)).trans ba
          have co2 := cell_keep K2 co (by omega)
          have hop2 := hop.keeps K2 (by omega)
          have fo2 : w2.frozen? ⟨ob, i, none⟩ = false := by
            obtain ⟨_, cs, ob1, _⟩ := hop2
            exact frozen_of_block ob1 _
          have c0 : w2.cell? ⟨wr.heap.size, 0, none⟩ = some (.int .i64 (i : Int)) := by rw [cell_of_block e2]; rfl
          have c1 : w2.cell? ⟨wr.heap.size, 1, none⟩ = some (.int .i64 1) := by rw [cell_of_block e2]; rfl
          have c2 : w2.cell? ⟨wr.heap.size, 2, none⟩ = some (.int .u64 ad) := by rw [cell_of_block e2]; rfl
          have c3 : w2.cell? ⟨wr.heap.size, 3, none⟩ = some (.int .u64 wd) := by rw [cell_of_block e2]; rfl
          have c4 : w2.cell? ⟨wr.heap.size, 4, none⟩ = some (.bool own) := by rw [cell_of_block e2]; rfl
          have c5 : w2.cell? ⟨wr.heap.size, 5, none⟩ = some (.int .i64 er) := by rw [cell_of_block e2]; rfl
          have hne1 : ¬ ob = wr.heap.size := by omega
          obtain ⟨M, hM⟩ : ∃ M : Int, M = (n : Int) + 1 := ⟨_, rfl⟩
          have hlen : ∀ X, (Builtin.len_ #[56] 3 #[.slice (some ⟨g2, 0, none⟩) (n + 1) cap2]).run Tryd.prog X = .ok (.int .i64 M) X := fun X => by rw [hM]; simp [Builtin.len_, run_underlying Tryd.underlying56, Result.andThen, goInt]
          have hM0 : ¬ M = 0 := by omega
          have hsub : IntKind.i64.wrap (M - 1) = (n : Int) := by rw [IntKind.wrap_i64]; omega
          have hop3 : Op8 (w2.setCell ⟨ob, i, none⟩ (.int .i64 M)) ob (T.o.set i (n + 1)) := by
            have := hop2.set i hi8 (n + 1)
            rw [show ((n + 1 : Nat) : Int) = M by omega] at this
            exact this
          have hg2o : g2 ≠ ob := by omega
          have r4 : OwnR Ty.cl 7 38 (w2.setCell ⟨ob, i, none⟩ (.int .i64 M)) bs (.slice (some ⟨g2, 0, none⟩) (n + 1) cap2) (T.l ++ [(⟨(i : Int), (k : Int), 0, 0, 0, 0, 0⟩ : Ty)]) := r2.keeps (S := fun q => q = ob) (Keeps.setCell (S := fun q => q = ob) (Keeps.refl _ w2) (.inr rfl) _) (fun q hq e => by cases hq; exact hg2o e)
          have K4 : Keeps (fun q => bs ≤ q ∨ q = ob) wr (w2.setCell ⟨ob, i, none⟩ (.int .i64 M)) := (K2.mono (fun _ _ h => .inl h)).setCell (.inr (.inr rfl)) _
          have hnl2 : n < (T.l ++ [(⟨(i : Int), (k : Int), 0, 0, 0, 0, 0⟩ : Ty)]).length := by rw [HN.out]; simp
          have N1 := NT _ (n + 1) cap2 g2 _ n ⟨(i : Int), (k : Int), 0, 0, 0, 0, 0⟩ r4 hnl2 (by simp [HN.out]) ⟨Int.le_refl 0, (by decide : (0 : Int) < 4611686018427387904)⟩ ⟨Int.le_refl 0, (by decide : (0 : Int) < 4611686018427387904)⟩
          have HK : Hid (Keeps (fun q => bs ≤ q ∨ q = ob) wr (w2.setCell ⟨ob, i, none⟩ (.int .i64 M)) ∧ Op8 (w2.setCell ⟨ob, i, none⟩ (.int .i64 M)) ob (T.o.set i (n + 1)) ∧ bs ≤ g2 ∧ g2 ≠ ob) := ⟨K4, hop3, hg2, hg2o⟩
          clear r1 hs2 oa ba ka HT hop hop2 hb2 e2 hg2 r2 r3 K2 NT hown hM hn1 hn0 hnz hnl hKl r4 K4 hg2o hnl2 hop3
          go_wp2_with (at_builtin; refine wpList_append_run rfl _ _ 56 rfl rfl rfl HR.out ?_; clear HR)
          refine N1.mono ?_
          rintro ex w3 ⟨rfl, o3, k3⟩
          have ch : w3.cell? ⟨g2, n * 7 + 4, none⟩ = some (.int .i64 0) := by
            obtain ⟨gx, offx, hx, q⟩ := (o3.els ty_len).at n (by rw [List.length_set, HN.out]; simp)
            simp only [Option.some.injEq, Addr.mk.injEq, and_true] at hx
            obtain ⟨rfl, rfl⟩ := hx
            have := q 4 (.int .i64 0) (by rw [List.getElem_set_self]; rfl)
            simpa using this
          have HE : Hid (OwnR Ty.cl 7 38 w3 bs (.slice (some ⟨g2, 0, none⟩) (n + 1) cap2) ((T.l ++ [(⟨(i : Int), (k : Int), 0, 0, 0, 0, 0⟩ : Ty)]).set n (noteT ⟨(i : Int), (k : Int), 0, 0, 0, 0, 0⟩ k ⟨(i : Int), 1, ad, wd, own, er⟩)) ∧ Op8 w3 ob (T.o.set i (n + 1)) ∧ Keeps (fun q => bs ≤ q ∨ q = ob) wr w3) := ⟨o3, HK.out.2.1.keeps k3 (fun e => HK.out.2.2.2 e.symm), HK.out.1.trans (k3.mono (fun q _ e => .inl (e ▸ HK.out.2.2.1)))⟩
          clear N1 o3 k3 x0 x1 x2 x3 x4 x5 c0 c1 c2 c3 c4 c5 co co2 fo fo2 hlen HK
          go_wp2_with fail
          go_roundw
          · obtain ⟨E1, E2, E3⟩ := HE.out
            obtain ⟨X1, X2, X3⟩ := HX.out
            have hn := HN.out
            have kf := kr.young E3 (fun q hq => by omega)
            refine ⟨k + 1, _, by simp, by omega, ⟨?_, HS.out.symm⟩, (E3.block _ (lt_of_block br1) (by omega)).trans br1, (E3.block _ (lt_of_block br2) (by omega)).trans br2, kf⟩
            rw [← hn]
            refine ⟨E1, E2, fun q hq => ?_, fun t ht => ?_⟩
            · unfold Tr.at
              simp only [List.length_set, List.length_append, List.length_singleton]
              rw [List.getElem?_set]
              split
              · split
                · simp; omega
                · simp
              · have := X1 q hq
                unfold Tr.at at this
                omega
            · rcases mem_set_or ht with q | q
              · rcases List.mem_append.1 q with q | q
                · have := X2 t q; omega
                · simp only [List.mem_singleton] at q
                  subst q
                  exact ⟨⟨Int.le_refl 0, by simp; omega⟩, ⟨Int.le_refl 0, by simp; omega⟩⟩
              · rw [q]; exact noteT_cnt ⟨⟨Int.le_refl 0, by simp⟩, ⟨Int.le_refl 0, by simp⟩⟩
          · simp [intOf]; omega
        · have HX : Hid ((∀ i, i < 8 → T.at i ≤ T.l.length) ∧ (∀ t ∈ T.l, (0 ≤ t.rd ∧ t.rd ≤ k) ∧ (0 ≤ t.wr ∧ t.wr ≤ k)) ∧ T.o.length = 8) := ⟨hat, hcnt, ho8⟩
          have SB1 := SB h1
          have SC1 := SC h1
          have SD1 := SD h1
          have e2 := ba
          have hai := hat i hi8
          have hnl : T.l.length < 1152921504606846976 := by omega
          clear SA SB SC SD hat hcnt ho8 hbk hh HT
          cases hta : T.at i with
          | zero =>
            rw [SB1 hta] at hst
            have HS : Hid (triesF tr0 (L.take (k + 1)) 0 = _) := hst
            have HE : Hid (OwnR Ty.cl 7 38 (wr.alloc (.cells #[.int .i64 (i : Int), .int .i64 kd, .int .u64 ad, .int .u64 wd, .bool own, .int .i64 er] 44)) bs u5 T.l ∧ Op8 (wr.alloc (.cells #[.int .i64 (i : Int), .int .i64 kd, .int .u64 ad, .int .u64 wd, .bool own, .int .i64 er] 44)) ob T.o ∧ Keeps (fun q => bs ≤ q ∨ q = ob) wr (wr.alloc (.cells #[.int .i64 (i : Int), .int .i64 kd, .int .u64 ad, .int .u64 wd, .bool own, .int .i64 er] 44))) := ⟨oa, hop.keeps ka (fun f => f), ka.mono (fun _ _ f => f.elim)⟩
            replace co : wr.cell? ⟨ob, i, none⟩ = some (.int .i64 0) := by rw [co, hta]; rfl
            clear hst SB1 SC1 SD1 NT oa ba e2 ka hop hown hKl hta hai hnl
            go_wp2_with fail
            go_roundw
            · obtain ⟨E1, E2, E3⟩ := HE.out
              obtain ⟨X1, X2, X3⟩ := HX.out
              have kf := kr.young E3 (fun q hq => by omega)
              refine ⟨k + 1, T, by simp, by omega, ⟨⟨E1, E2, X1, fun t ht => by have := X2 t ht; omega⟩, HS.out.symm⟩, (E3.block _ (lt_of_block br1) (by omega)).trans br1, (E3.block _ (lt_of_block br2) (by omega)).trans br2, kf⟩
            · simp [intOf]; omega
          | succ j =>
            have hj : j < T.l.length := by omega
            obtain ⟨g2, cap2, cur2, hv2, hg2, hb2, hs2⟩ := hown.at (by omega)
            obtain ⟨n, hn⟩ : ∃ n, n = T.l.length := ⟨_, rfl⟩
            have HN : Hid (n = T.l.length) := hn
            rw [← hn] at hv2
            subst hv2
            obtain ⟨M, hM⟩ : ∃ M : Int, M = (j : Int) + 1 := ⟨_, rfl⟩
            rw [hta, show ((j + 1 : Nat) : Int) = M by omega] at co
            have hM0 : ¬ M = 0 := by omega
            have hsub : IntKind.i64.wrap (M - 1) = (j : Int) := by rw [IntKind.wrap_i64]; omega
            have hjn : (j : Int) < n := by omega
            have hj0 : (0 : Int) ≤ j := by omega
            have hq := HX.out.2.1 _ (List.getElem_mem hj)
            have N1 := NT _ n cap2 g2 _ j (T.l[j]) oa hj rfl ⟨hq.1.1, by omega⟩ ⟨hq.2.1, by omega⟩
            have HNC : Hid ((0 ≤ (noteT (T.l[j]) k ⟨(i : Int), kd, ad, wd, own, er⟩).rd ∧ (noteT (T.l[j]) k ⟨(i : Int), kd, ad, wd, own, er⟩).rd ≤ (k + 1 : Nat)) ∧ (0 ≤ (noteT (T.l[j]) k ⟨(i : Int), kd, ad, wd, own, er⟩).wr ∧ (noteT (T.l[j]) k ⟨(i : Int), kd, ad, wd, own, er⟩).wr ≤ (k + 1 : Nat))) := noteT_cnt hq
            have SC2 : Hid ((noteT (T.l[j]) k ⟨(i : Int), kd, ad, wd, own, er⟩).how = 0 → stepT T k ⟨(i : Int), kd, ad, wd, own, er⟩ = ⟨T.l.set j (noteT (T.l[j]) k ⟨(i : Int), kd, ad, wd, own, er⟩), T.o⟩) := SC1 j hta hj
            have SD2 : Hid ((noteT (T.l[j]) k ⟨(i : Int), kd, ad, wd, own, er⟩).how ≠ 0 → stepT T k ⟨(i : Int), kd, ad, wd, own, er⟩ = ⟨T.l.set j (noteT (T.l[j]) k ⟨(i : Int), kd, ad, wd, own, er⟩), T.o.set i 0⟩) := SD1 j hta hj
            have HS : Hid (triesF tr0 (L.take (k + 1)) 0 = stepT T k ⟨(i : Int), kd, ad, wd, own, er⟩) := hst
            have HK : Hid (Op8 (wr.alloc (.cells #[.int .i64 (i : Int), .int .i64 kd, .int .u64 ad, .int .u64 wd, .bool own, .int .i64 er] 44)) ob T.o ∧ bs ≤ g2 ∧ g2 ≠ ob ∧ Keeps (fun q => bs ≤ q ∨ q = ob) wr (wr.alloc (.cells #[.int .i64 (i : Int), .int .i64 kd, .int .u64 ad, .int .u64 wd, .bool own, .int .i64 er] 44)) ∧ g2 < wr.heap.size ∧ j < T.l.length) := ⟨hop.keeps ka (fun f => f), hg2, by omega, ka.mono (fun _ _ f => f.elim), lt_of_block hb2, hj⟩
            have EB : Hid ((wr.alloc (.cells #[.int .i64 (i : Int), .int .i64 kd, .int .u64 ad, .int .u64 wd, .bool own, .int .i64 er] 44)).heap[wr.heap.size]? = some (.cells #[.int .i64 (i : Int), .int .i64 kd, .int .u64 ad, .int .u64 wd, .bool own, .int .i64 er] 44 (0, 0))) := ba
            generalize noteT (T.l[j]) k ⟨(i : Int), kd, ad, wd, own, er⟩ = nt at *
            have hobw : ¬ ob = wr.heap.size := by omega
            clear hst SB1 SC1 SD1 NT oa ba e2 ka hop hown hKl hta hai hM hn hq hs2 hb2 hg2 hj hnl
            go_wp2_with fail
            refine N1.mono ?_
            rintro ex w3 ⟨rfl, o3, k3⟩
            have ch : w3.cell? ⟨g2, j * 7 + 4, none⟩ = some (.int .i64 nt.how) := by
              obtain ⟨gx, offx, hx, q⟩ := (o3.els ty_len).at j (by rw [List.length_set]; exact HK.out.2.2.2.2.2)
              simp only [Option.some.injEq, Addr.mk.injEq, and_true] at hx
              obtain ⟨rfl, rfl⟩ := hx
              have := q 4 (.int .i64 nt.how) (by rw [List.getElem_set_self]; rfl)
              simpa using this
            have op3 := HK.out.1.keeps k3 (fun e => HK.out.2.2.1 e.symm)
            have K3 := HK.out.2.2.2.1.trans (k3.mono (fun q _ e => .inl (e ▸ HK.out.2.1)))
            have eb3 : w3.heap[wr.heap.size]? = _ := (k3.block _ (lt_of_block EB.out) (by have := HK.out.2.2.2.2.1; omega)).trans EB.out
            have c0 : w3.cell? ⟨wr.heap.size, 0, none⟩ = some (.int .i64 (i : Int)) := by rw [cell_of_block eb3]; rfl
            have co3 : ∃ z, w3.cell? ⟨ob, i, none⟩ = some z := by
              obtain ⟨_, cs, q1, q2, q3⟩ := op3
              exact ⟨_, by rw [cell_of_block q1, q3 i hi8]⟩
            obtain ⟨z, co3⟩ := co3
            have fo3 : w3.frozen? ⟨ob, i, none⟩ = false := by
              obtain ⟨_, cs, q1, _⟩ := op3
              exact frozen_of_block q1 _
            by_cases hho : nt.how = 0
            · rw [hho] at ch
              have HE : Hid (OwnR Ty.cl 7 38 w3 bs (.slice (some ⟨g2, 0, none⟩) n cap2) (T.l.set j nt) ∧ Op8 w3 ob T.o ∧ Keeps (fun q => bs ≤ q ∨ q = ob) wr w3 ∧ nt.how = 0) := ⟨o3, op3, K3, hho⟩
              clear N1 o3 k3 op3 K3 eb3 x0 x1 x2 x3 x4 x5 co fo hho
              go_wp2_with fail
              go_roundw
              · obtain ⟨E1, E2, E3, E4⟩ := HE.out
                obtain ⟨X1, X2, X3⟩ := HX.out
                have hn := HN.out
                have kf := kr.young E3 (fun q hq => by omega)
                refine ⟨k + 1, ⟨T.l.set j nt, T.o⟩, by simp, by omega, ⟨?_, ((HS.out).trans (SC2.out E4)).symm⟩, (E3.block _ (lt_of_block br1) (by omega)).trans br1, (E3.block _ (lt_of_block br2) (by omega)).trans br2, kf⟩
                refine ⟨E1, E2, fun q hq => ?_, fun t ht => ?_⟩
                · rw [List.length_set]; exact X1 q hq
                · rcases mem_set_or ht with q | q
                  · have := X2 t q; omega
                  · rw [q]; exact HNC.out
              · simp [intOf]; omega
            · have op4 : Op8 (w3.setCell ⟨ob, i, none⟩ (.int .i64 0)) ob (T.o.set i 0) := op3.set i hi8 0
              have HE : Hid (OwnR Ty.cl 7 38 (w3.setCell ⟨ob, i, none⟩ (.int .i64 0)) bs (.slice (some ⟨g2, 0, none⟩) n cap2) (T.l.set j nt) ∧ Op8 (w3.setCell ⟨ob, i, none⟩ (.int .i64 0)) ob (T.o.set i 0) ∧ Keeps (fun q => bs ≤ q ∨ q = ob) wr (w3.setCell ⟨ob, i, none⟩ (.int .i64 0)) ∧ nt.how ≠ 0) := ⟨o3.keeps (S := fun q => q = ob) (Keeps.setCell (S := fun q => q = ob) (Keeps.refl _ w3) (.inr rfl) _) (fun q hq e => by cases hq; exact HK.out.2.2.1 e), op4, K3.setCell (.inr (.inr rfl)) _, hho⟩
              clear N1 o3 k3 op3 K3 eb3 x0 x1 x2 x3 x4 x5 co fo op4
              go_wp2_with fail
              go_roundw
              · obtain ⟨E1, E2, E3, E4⟩ := HE.out
                obtain ⟨X1, X2, X3⟩ := HX.out
                have hn := HN.out
                have kf := kr.young E3 (fun q hq => by omega)
                refine ⟨k + 1, ⟨T.l.set j nt, T.o.set i 0⟩, by simp, by omega, ⟨?_, ((HS.out).trans (SD2.out E4)).symm⟩, (E3.block _ (lt_of_block br1) (by omega)).trans br1, (E3.block _ (lt_of_block br2) (by omega)).trans br2, kf⟩
                refine ⟨E1, E2, fun q hq => ?_, fun t ht => ?_⟩
                · rw [List.length_set]
                  unfold Tr.at
                  dsimp only
                  rw [List.getElem?_set]
                  split
                  · split <;> simp
                  · exact X1 q hq
                · rcases mem_set_or ht with q | q
                  · have := X2 t q; omega
                  · rw [q]; exact HNC.out
              · simp [intOf]; omega
      · obtain rfl : k = L.length := by omega
        have HO : Hid (OwnR Ty.cl 7 38 wr w.heap.size u5 (triesL L)) := by
          have h1 := hh.out.1.own.lowE (b := w.heap.size) (by omega)
          rw [hh.out.2, List.take_length] at h1
          exact h1
        have B2 := br1
        have bA := br2
        have c0 : wr.cell? ⟨w.heap.size, 0, none⟩ = some (.int .i64 0) := by rw [cell_of_block B2]; rfl
        have c1 : wr.cell? ⟨w.heap.size, 1, none⟩ = some (.int .i64 0) := by rw [cell_of_block B2]; rfl
        have f0 : wr.frozen? ⟨w.heap.size, 0, none⟩ = false := frozen_of_block B2 _
        have f1 : wr.frozen? ⟨w.heap.size, 1, none⟩ = false := frozen_of_block B2 _
        have hS0 : wr.cell? ⟨N, 0, none⟩ = some (.int .i64 (-1)) ∧ wr.cell? ⟨N, 1, none⟩ = some (.int .i64 0) := ⟨by rw [cell_of_block bA]; rfl, by rw [cell_of_block bA]; rfl⟩
        have hne : ¬ w.heap.size = N := by omega
        have BE : Hid (((wr.setCell ⟨w.heap.size, 0, none⟩ (.int .i64 (-1))).setCell ⟨w.heap.size, 1, none⟩ (.int .i64 0)).heap[w.heap.size]? = some (.cells (odV (-1) 0) 28 (0, 0))) := block_set (block_set B2 0 (.int .i64 (-1))) 1 (.int .i64 0)
        have KE := kr
        have hug : ∀ g, u5.ownBlock = some g → bs ≤ g := fun g hg => (own_block hh.out.1.own.own hg).2
        have HG : Hid (∀ g, u5.ownBlock = some g → w.heap.size < g) := fun g hg => by have := hug g hg; omega
        clear bA B2 br1 br2 hug hh
        go_wp2_with fail
        go_region_held3 (fun W : World => W.cell? ⟨N, 0, none⟩ = some (.int .i64 (-1)) ∧ W.cell? ⟨N, 1, none⟩ = some (.int .i64 0)) (first | assumption | (exact hS0) | go_keep) (fail)
        go_wp2_with fail
        refine bodyPost_ret (odd_ret2 rfl _ _ w.heap.size (odV (-1) 0) BE.out rfl rfl) rfl ?_
        have KF := (((Keeps.refl (fun q => q = w.heap.size) wr).setCell (p := ⟨w.heap.size, 0, none⟩) (.inr rfl) (.int .i64 (-1))).setCell (p := ⟨w.heap.size, 1, none⟩) (.inr rfl) (.int .i64 0)).drew
        exact ⟨_, rfl, HO.out.keeps KF (fun g hg e => by have := HG.out g hg; omega), (((KE.setCell (.inl (Nat.le_refl _)) _).setCell (.inl (Nat.le_refl _)) _).drew)⟩
  · rw [if_neg hce]
    clear hch hfm hB CK
    go_enter Tryd.func26, Tryd.ntmps26
    go_wp2_with fail
    refine CC.mono ?_
    rintro ex w1 ⟨rfl, k1⟩
    have K1 := k0.trans k1
    have B1 := (k1.block _ (lt_of_block b0) (fun f => f)).trans b0
    clear CC k0 k1 b0
    have kA := (Keeps.refl (fun _ => False) w1).alloc (.cells #[.int .i64 ca, .int .i64 ce] 28)
    have bA := (MapKept.heap_alloc w1 (.cells #[.int .i64 ca, .int .i64 ce] 28)).1
    have B2 := (kA.block _ (lt_of_block B1) (fun f => f)).trans B1
    have hlt1 := lt_of_block B1
    go_wp2_with fail
    generalize hW : w1.alloc (.cells #[.int .i64 ca, .int .i64 ce] 28) = W at *
    have c0 : W.cell? ⟨w.heap.size, 0, none⟩ = some (.int .i64 0) := by rw [cell_of_block B2]; rfl
    have c1 : W.cell? ⟨w.heap.size, 1, none⟩ = some (.int .i64 0) := by rw [cell_of_block B2]; rfl
    have f0 : W.frozen? ⟨w.heap.size, 0, none⟩ = false := frozen_of_block B2 _
    have f1 : W.frozen? ⟨w.heap.size, 1, none⟩ = false := frozen_of_block B2 _
    have hS0 : W.cell? ⟨w1.heap.size, 0, none⟩ = some (.int .i64 ca) ∧ W.cell? ⟨w1.heap.size, 1, none⟩ = some (.int .i64 ce) := ⟨by rw [cell_of_block bA]; rfl, by rw [cell_of_block bA]; rfl⟩
    have hne : ¬ w.heap.size = w1.heap.size := by omega
    have BE : Hid (∀ X : World, X.heap = W.heap → ((X.setCell ⟨w.heap.size, 0, none⟩ (.int .i64 ca)).setCell ⟨w.heap.size, 1, none⟩ (.int .i64 ce)).heap[w.heap.size]? = some (.cells (odV ca ce) 28 (0, 0))) := fun X hX => by
      have := block_set (block_set (w := X) (by rw [hX]; exact B2) 0 (.int .i64 ca)) 1 (.int .i64 ce)
      exact this
    have KE := K1.trans kA
    clear hW kA bA B2 K1
    go_region_held3 (fun W : World => W.cell? ⟨w1.heap.size, 0, none⟩ = some (.int .i64 ca) ∧ W.cell? ⟨w1.heap.size, 1, none⟩ = some (.int .i64 ce)) (first | assumption | (exact hS0) | go_keep) (fail)
    go_wp2_with fail
    refine bodyPost_ret (odd_ret2 rfl _ _ w.heap.size (odV ca ce) (BE.out W rfl) rfl rfl) rfl ?_
    exact ⟨_, rfl, OwnR.nilB _ _ _ _ _ (Nat.le_trans KE.size (by simp)), (((KE.setCell (.inl (Nat.le_refl _)) _).setCell (.inl (Nat.le_refl _)) _).drew)⟩
end Go.Proofs.YtjmmjkoloioddaaDoor
