/-
  No statement of the seat is proved here. (Several texts in one: EvM, OpR.)
-/
import Derived.Test.YthmiainhaebjiaaGreatDoorM21OpZ
import Derived.Test.YthmiainhaebjiaaGreatDoorM19OpQ

/- A walk of Tries (package events). No statement of the seat is proved here. -/
namespace Go.Proofs.YthmiainhaebjiaaGreatDoor
open Go.RowKit Go.Shelf

/-- The numbers of open attempts, as they lie. -/
def Op8 (w : World) (ob : Nat) (o : List Nat) : Prop := o.length = 8 ∧ ∃ cs, w.heap[ob]? = some (.cells cs 126 (0, 0)) ∧ cs.size = 8 ∧ ∀ i, i < 8 → cs[i]? = some (.int .i64 (((o[i]?).getD 0 : Nat) : Int))
theorem Op8.keeps {w w' : World} {ob : Nat} {o : List Nat} {S : Nat → Prop} (h : Op8 w ob o) (k : Keeps S w w') (hs : ¬ S ob) : Op8 w' ob o := by
  obtain ⟨h0, cs, h1, h2⟩ := h
  exact ⟨h0, cs, (k.block ob (lt_of_block h1) hs).trans h1, h2⟩
theorem Op8.set {w : World} {ob : Nat} {o : List Nat} (h : Op8 w ob o) (i : Nat) (hi : i < 8) (x : Nat) : Op8 (w.setCell ⟨ob, i, none⟩ (.int .i64 (x : Int))) ob (o.set i x) := by
  obtain ⟨h0, cs, h1, h2, h3⟩ := h
  refine ⟨by simpa using h0, _, block_set h1 _ _, by simpa using h2, fun j hj => ?_⟩
  rw [List.getElem?_set]
  by_cases e : i = j
  · subst e
    rw [Array.getElem?_setIfInBounds_self_of_lt (by omega)]
    simp [h0, hi]
  · rw [Array.getElem?_setIfInBounds_ne e, h3 j hj]
    simp [e]
theorem OwnR.lowE {α : Type} {c : α → List Value} {sz : Nat} {t : TypeId} {w : World} {base b : Nat} {v : Value} {L : List α} (h : OwnR c sz t w base v L) (hb : b ≤ base) : OwnR c sz t w b v L := by
  refine ⟨⟨h.own.1, ?_⟩, Nat.le_trans hb h.base⟩
  rcases h.own.2 with q | ⟨g, cap, cur, q1, q2, q3⟩
  · exact .inl q
  · exact .inr ⟨g, cap, cur, q1, Nat.le_trans hb q2, q3⟩
/-- What stands of the attempts while they are told. -/
structure TAt (wr : World) (base ob : Nat) (v : Value) (T : Tr) (k : Nat) : Prop where
  own : OwnR Ty.cl 7 54 wr base v T.l
  op : Op8 wr ob T.o
  at_ : ∀ i, i < 8 → T.at i ≤ T.l.length
  cnt : ∀ t ∈ T.l, (0 ≤ t.rd ∧ t.rd ≤ k) ∧ (0 ≤ t.wr ∧ t.wr ≤ k)
theorem stepA {T : Tr} {k i : Nat} {e : Ev} (h1 : e.kd = 1) (hi : e.th = i) (h8 : i < 8) (ho : T.o.length = 8) : stepT T k e = ⟨(T.l ++ [(⟨e.th, k, 0, 0, 0, 0, 0⟩ : Ty)]).set T.l.length (noteT ⟨e.th, k, 0, 0, 0, 0, 0⟩ k e), T.o.set i (T.l.length + 1)⟩ := by
  have hti : e.th.toNat = i := by omega
  unfold stepT openT
  rw [if_pos h1, hti]
  unfold markT Tr.at
  dsimp only
  rw [hti, List.getElem?_set_self (by omega)]
  simp only [Option.getD_some, Nat.add_eq_zero_iff, Nat.one_ne_zero, and_false, if_false, Nat.add_sub_cancel]
  rw [List.getElem?_append_right (Nat.le_refl _)]
  simp only [Nat.sub_self, List.getElem?_cons_zero, Option.getD_some]
  have hw : (noteT ⟨e.th, (k : Int), 0, 0, 0, 0, 0⟩ k e).how = 0 := by unfold noteT endB; simp [h1]
  rw [if_pos hw]
theorem stepB {T : Tr} {k i : Nat} {e : Ev} (h1 : e.kd ≠ 1) (hi : e.th = i) (ha : T.at i = 0) : stepT T k e = T := by
  have hti : e.th.toNat = i := by omega
  unfold stepT openT
  rw [if_neg h1]
  unfold markT
  rw [hti, if_pos ha]
theorem stepC {T : Tr} {k i j : Nat} {e : Ev} (h1 : e.kd ≠ 1) (hi : e.th = i) (ha : T.at i = j + 1) (hj : j < T.l.length) (hh : (noteT (T.l[j]) k e).how = 0) : stepT T k e = ⟨T.l.set j (noteT (T.l[j]) k e), T.o⟩ := by
  have hti : e.th.toNat = i := by omega
  unfold stepT openT
  rw [if_neg h1]
  unfold markT
  rw [hti, ha, if_neg (by omega)]
  simp only [Nat.add_sub_cancel, List.getElem?_eq_getElem hj, Option.getD_some]
  rw [if_pos hh]
theorem stepD {T : Tr} {k i j : Nat} {e : Ev} (h1 : e.kd ≠ 1) (hi : e.th = i) (ha : T.at i = j + 1) (hj : j < T.l.length) (hh : (noteT (T.l[j]) k e).how ≠ 0) : stepT T k e = ⟨T.l.set j (noteT (T.l[j]) k e), T.o.set i 0⟩ := by
  have hti : e.th.toNat = i := by omega
  unfold stepT openT
  rw [if_neg h1]
  unfold markT
  rw [hti, ha, if_neg (by omega)]
  simp only [Nat.add_sub_cancel, List.getElem?_eq_getElem hj, Option.getD_some]
  rw [if_neg hh]
theorem triesF_take {L : List Ev} {k : Nat} (hk : k < L.length) : triesF tr0 (L.take (k + 1)) 0 = stepT (triesF tr0 (L.take k) 0) k (L[k]) := by
  rw [List.take_succ_eq_append_getElem hk, triesF_append]
  simp only [triesF, List.length_take]
  rw [show 0 + min k L.length = k by omega]
theorem mem_set_or {α : Type} {l : List α} {i : Nat} {a x : α} (h : x ∈ l.set i a) : x ∈ l ∨ x = a := List.mem_or_eq_of_mem_set h
theorem chk_formed : ∀ (h : List Ev) (S : St) (k : Nat), (chk S h k).2 = 0 → ∀ e ∈ h, formedE e = true
  | [], _, _, _, e, he => by simp at he
  | x :: h, S, k, hc, e, he => by
    rw [chk] at hc
    by_cases hx : errE S x = 0
    · rw [if_pos hx] at hc
      rcases List.mem_cons.1 he with rfl | he
      · exact (err_ok hx).1
      · exact chk_formed h _ _ hc e he
    · rw [if_neg hx] at hc; exact absurd hc hx
theorem noteT_cnt {t : Ty} {a : Int} {e : Ev} {k : Nat} (h : (0 ≤ t.rd ∧ t.rd ≤ k) ∧ (0 ≤ t.wr ∧ t.wr ≤ k)) : (0 ≤ (noteT t a e).rd ∧ (noteT t a e).rd ≤ (k + 1 : Nat)) ∧ (0 ≤ (noteT t a e).wr ∧ (noteT t a e).wr ≤ (k + 1 : Nat)) := by
  unfold noteT
  dsimp only
  refine ⟨?_, ?_⟩ <;> split <;> omega
set_option maxRecDepth 100000 in
set_option maxHeartbeats 8000000 in
theorem tries_any (v : Value) (L : List Ev) (w : World) (hv : EvsAt w v L) (hg : Gv w) (h8 : 2 ≤ w.heap.size) (hB : (checkL L).2 = 0 → ∀ k, k < L.length → ((triesF tr0 (L.take k) 0).l.length + 1) * 56 ≤ 140737488355328) :
    Calls Tryz.prog 38 #[v] w fun ex w' => ∃ tv, ex = .returned (.tuple #[tv, .agg (odV (checkL L).1 (checkL L).2)]) ∧ OwnR Ty.cl 7 54 w' w.heap.size tv (if (checkL L).2 = 0 then triesL L else []) ∧ Keeps (fun _ => False) w w' := by
  have hbig := hv.big
  have CK := check_any v L
  have hch := chk_yes L st0 0
  have hfm := chk_formed L st0 0
  change (checkL L).2 = 0 → checkL L = (-1, 0) at hch
  change (checkL L).2 = 0 → _ at hfm
  have HV : Hid (∀ X, Keeps (fun _ => False) w X → EvsAt X v L ∧ Gv X) := fun X k => ⟨hv.keeps k, hg.keeps k⟩
  obtain ⟨a, cap, rfl, hcap⟩ := hv.els.shape
  clear hv hg
  have k0 := (Keeps.refl (fun _ => False) w).alloc (.cells (odV 0 0) 31)
  have b0 : (w.alloc (.cells (odV 0 0) 31)).heap[w.heap.size]? = some (.cells (odV 0 0) 31 (0, 0)) := (MapKept.heap_alloc w _).1
  have CC := CK (w.alloc (.cells (odV 0 0) 31)) (HV.out _ k0).1 (HV.out _ k0).2 (by simp; omega)
  unfold odV at k0 b0 CC
  generalize hcl : checkL L = cl at *
  obtain ⟨ca, ce⟩ := cl
  dsimp only at *
  by_cases hce : ce = 0
  · subst hce
    obtain ⟨hca, -⟩ := Prod.mk.inj (hch rfl)
    have hfm2 := hfm rfl
    have hB2 := hB rfl
    subst hca
    rw [if_pos rfl]
    clear hch hfm hB CK
    go_enter Tryz.func38, Tryz.ntmps38
    go_wp2_with fail
    refine CC.mono ?_
    rintro ex w1 ⟨rfl, k1⟩
    have K1 := k0.trans k1
    have B1 := (k1.block _ (lt_of_block b0) (fun f => f)).trans b0
    clear CC k0 k1 b0
    have kA := (Keeps.refl (fun _ => False) w1).alloc (.cells #[.int .i64 (-1), .int .i64 0] 31)
    have bA := (MapKept.heap_alloc w1 (.cells #[.int .i64 (-1), .int .i64 0] 31)).1
    have B2 := (kA.block _ (lt_of_block B1) (fun f => f)).trans B1
    have hlt1 := lt_of_block B1
    go_wp2_with fail
    obtain ⟨ob, hob⟩ : ∃ ob, ob = w1.heap.size + 1 := ⟨_, rfl⟩
    obtain ⟨N, hN⟩ : ∃ N, N = w1.heap.size := ⟨_, rfl⟩
    obtain ⟨bs, hbs⟩ : ∃ bs, bs = w1.heap.size + 2 := ⟨_, rfl⟩
    rw [← hob, ← hN]
    have hNw : w.heap.size < N := by omega
    have hNo : N < ob := by omega
    have hob2 : ob < bs := by omega
    go_loopw [5, 18] (fun x u wr => ∃ (k : Nat) (T : Tr), u = .int .i64 k ∧ k ≤ L.length ∧ Hid (TAt wr bs ob x T k ∧ T = triesF tr0 (L.take k) 0) ∧ wr.heap[w.heap.size]? = some (.cells (odV 0 0) 31 (0, 0)) ∧ wr.heap[N]? = some (.cells (odV (-1) 0) 31 (0, 0)) ∧ Keeps (fun _ => False) w wr) (fun _ u _ => L.length - (intOf u).toNat)
    case atStart =>
      have kB := (Keeps.refl (fun _ => False) (w1.alloc (.cells #[.int .i64 (-1), .int .i64 0] 31))).alloc (.cells #[.int .i64 0, .int .i64 0, .int .i64 0, .int .i64 0, .int .i64 0, .int .i64 0, .int .i64 0, .int .i64 0] 126)
      have bB := (MapKept.heap_alloc (w1.alloc (.cells #[.int .i64 (-1), .int .i64 0] 31)) (.cells #[.int .i64 0, .int .i64 0, .int .i64 0, .int .i64 0, .int .i64 0, .int .i64 0, .int .i64 0, .int .i64 0] 126)).1
      rw [show (w1.alloc (.cells #[.int .i64 (-1), .int .i64 0] 31)).heap.size = w1.heap.size + 1 by simp] at bB
      rw [← hob] at bB
      rw [← hN] at bA
      refine ⟨0, tr0, rfl, Nat.zero_le _, ⟨⟨OwnR.nilB _ _ _ _ _ (by simp; omega), ⟨rfl, _, bB, rfl, fun i hi => ?_⟩, fun i hi => ?_, fun t ht => by simp [tr0] at ht⟩, by simp [triesF]⟩, (kB.block _ (lt_of_block B2) (fun f => f)).trans B2, (kB.block _ (lt_of_block bA) (fun f => f)).trans bA, (K1.trans kA).trans kB⟩
      · rcases (by omega : i = 0 ∨ i = 1 ∨ i = 2 ∨ i = 3 ∨ i = 4 ∨ i = 5 ∨ i = 6 ∨ i = 7) with rfl | rfl | rfl | rfl | rfl | rfl | rfl | rfl <;> rfl
      · rcases (by omega : i = 0 ∨ i = 1 ∨ i = 2 ∨ i = 3 ∨ i = 4 ∨ i = 5 ∨ i = 6 ∨ i = 7) with rfl | rfl | rfl | rfl | rfl | rfl | rfl | rfl <;> decide
    case round =>
      clear B1 K1 kA bA B2 hob hN hbs hlt1
      obtain ⟨k, T, rfl, hk, hh, br1, br2, kr⟩ := hrel
      by_cases hlt : k < L.length
      · obtain ⟨g, off, rfl, x0, x1, x2, x3, x4, x5⟩ := (HV.out wr kr).1.at k hlt
        obtain ⟨t0, t8, q0, q1⟩ := formed_in (hfm2 _ (List.getElem_mem hlt))
        have hst := triesF_take hlt
        have hbk := hB2 k hlt
        rw [← hh.out.2] at hst hbk
        generalize hev : L[k]'hlt = e at *
        clear hev hfm2 hB2
        obtain ⟨i, hi⟩ : ∃ i : Nat, e.th = i := ⟨e.th.toNat, by omega⟩
        have hi8 : i < 8 := by omega
        have HT := hh.out.1
        have hown := HT.own
        obtain ⟨ho8, cs, ob1, ob2, ob3⟩ := HT.op
        have hobl := lt_of_block ob1
        have co : wr.cell? ⟨ob, i, none⟩ = some (.int .i64 ((T.at i : Nat) : Int)) := by rw [cell_of_block ob1, ob3 i hi8]; rfl
        have fo : wr.frozen? ⟨ob, i, none⟩ = false := frozen_of_block ob1 _
        have hop : Op8 wr (ob) T.o := HT.op
        have hat := HT.at_
        have hcnt := HT.cnt
        have hki : (k : Int) < L.length := by omega
        have hk0 : (0 : Int) ≤ k := by omega
        have hi0 : (0 : Int) ≤ i := by omega
        have hi8' : (i : Int) < 8 := by omega
        have SA := fun h => stepA (T := T) (k := k) (e := e) h hi hi8 ho8
        have SB := fun h a => stepB (T := T) (k := k) (e := e) h hi a
        have SC := fun h j a => stepC (T := T) (k := k) (e := e) (j := j) h hi a
        have SD := fun h j a => stepD (T := T) (k := k) (e := e) (j := j) h hi a
        have NT := fun W n cp g2 (Q : List Ty) j t h hj ht hr hw => note_any (bs) g2 n cp Q j t (k : Int) e W h hj ht hr hw
        have ka := (Keeps.refl (fun _ => False) wr).alloc (.cells e.cells 60)
        have ba := (MapKept.heap_alloc wr (.cells e.cells 60)).1
        have oa := hown.keeps ka (fun _ _ f => f)
        have hKl : (k : Int) < 4611686018427387904 := by omega
        obtain ⟨th, kd, ad, wd, own, er⟩ := e
        dsimp only at hi x0 x1 x2 x3 x4 x5 ka ba oa q0 q1 SA SB SC SD NT
        subst hi
        clear t0 t8 ob1 ob2 ob3
        by_cases h1 : kd = 1
        · subst h1
          rw [SA rfl] at hst
          clear SA SB SC SD
          obtain ⟨v', w2, r1, r2, r3⟩ := oa.push (P := Tryz.prog) (ts := 64) (ty := 64) ty_len ty_one (by decide) Tryz.underlying64 info_ty rfl (by decide) ⟨(i : Int), (k : Int), 0, 0, 0, 0, 0⟩ (cs := #[.int .i64 (i : Int), .int .i64 (k : Int), .int .i64 0, .int .u64 0, .int .i64 0, .int .i64 0, .int .i64 0]) rfl hbk
          obtain ⟨g2, cap2, cur2, hv2, hg2, hb2, hs2⟩ := r2.at (by simp)
          rw [List.length_append, List.length_singleton] at hv2
          subst hv2
          clear hh
          rw [show (wr.alloc (.cells #[.int .i64 (i : Int), .int .i64 1, .int .u64 ad, .int .u64 wd, .bool own, .int .i64 er] 60)).heap.size = wr.heap.size + 1 by simp] at r1
          have HR : Hid ((Builtin.append_ #[64, 64] 64 #[u5, .slice (some ⟨wr.heap.size + 1, 0, none⟩) 1 1]).run Tryz.prog ((wr.alloc (.cells #[.int .i64 (i : Int), .int .i64 1, .int .u64 ad, .int .u64 wd, .bool own, .int .i64 er] 60)).alloc (.cells #[.int .i64 (i : Int), .int .i64 (k : Int), .int .i64 0, .int .u64 0, .int .i64 0, .int .i64 0, .int .i64 0] 54)) = .ok _ w2) := r1
          have HS : Hid (triesF tr0 (L.take (k + 1)) 0 = _) := hst
          have HX : Hid ((∀ i, i < 8 → T.at i ≤ T.l.length) ∧ (∀ t ∈ T.l, (0 ≤ t.rd ∧ t.rd ≤ k) ∧ (0 ≤ t.wr ∧ t.wr ≤ k)) ∧ T.o.length = 8) := ⟨hat, hcnt, ho8⟩
          have hnl : T.l.length < 1152921504606846976 := by omega
          clear hst hat hcnt ho8 hbk
          obtain ⟨n, hn⟩ : ∃ n, n = T.l.length := ⟨_, rfl⟩
          have HN : Hid (n = T.l.length) := hn
          rw [← hn] at HR r2 r3 hnl
          clear hn
          have hn1 : ((n : Int) + 1) < 4611686018427387904 := by omega
          have hn0 : (0 : Int) ≤ n := by omega
          have hnz : ¬ ((n : Int) + 1 = 0) := by omega
          have K2 : Keeps (fun q => bs ≤ q) wr w2 := (ka.mono (fun _ _ f => f.elim)).trans (r3.keeps.mono (fun q _ hq => (own_block oa.own hq).2))
          have e2 := (r3.keeps.block _ (lt_of_block ba) (fun hq => by have := (own_block hown.own hq).1; omega)).trans ba
          have co2 := cell_keep K2 co (by omega)
          have hop2 := hop.keeps K2 (by omega)
          have fo2 : w2.frozen? ⟨ob, i, none⟩ = false := by
            obtain ⟨_, cs, ob1, _⟩ := hop2
            exact frozen_of_block ob1 _
          have c0 : w2.cell? ⟨wr.heap.size, 0, none⟩ = some (.int .i64 (i : Int)) := by rw [cell_of_block e2]; rfl
          have c1 : w2.cell? ⟨wr.heap.size, 1, none⟩ = some (.int .i64 1) := by rw [cell_of_block e2]; rfl
          have c2 : w2.cell? ⟨wr.heap.size, 2, none⟩ = some (.int .u64 ad) := by rw [cell_of_block e2]; rfl
          have c3 : w2.cell? ⟨wr.heap.size, 3, none⟩ = some (.int .u64 wd) := by rw [cell_of_block e2]; rfl
          have c4 : w2.cell? ⟨wr.heap.size, 4, none⟩ = some (.bool own) := by rw [cell_of_block e2]; rfl
          have c5 : w2.cell? ⟨wr.heap.size, 5, none⟩ = some (.int .i64 er) := by rw [cell_of_block e2]; rfl
          have hne1 : ¬ ob = wr.heap.size := by omega
          obtain ⟨M, hM⟩ : ∃ M : Int, M = (n : Int) + 1 := ⟨_, rfl⟩
          have hlen : ∀ X, (Builtin.len_ #[64] 3 #[.slice (some ⟨g2, 0, none⟩) (n + 1) cap2]).run Tryz.prog X = .ok (.int .i64 M) X := fun X => by rw [hM]; simp [Builtin.len_, run_underlying Tryz.underlying64, Result.andThen, goInt]
          have hM0 : ¬ M = 0 := by omega
          have hsub : IntKind.i64.wrap (M - 1) = (n : Int) := by rw [IntKind.wrap_i64]; omega
          have hop3 : Op8 (w2.setCell ⟨ob, i, none⟩ (.int .i64 M)) ob (T.o.set i (n + 1)) := by
            have := hop2.set i hi8 (n + 1)
            rw [show ((n + 1 : Nat) : Int) = M by omega] at this
            exact this
          have hg2o : g2 ≠ ob := by omega
          have r4 : OwnR Ty.cl 7 54 (w2.setCell ⟨ob, i, none⟩ (.int .i64 M)) bs (.slice (some ⟨g2, 0, none⟩) (n + 1) cap2) (T.l ++ [(⟨(i : Int), (k : Int), 0, 0, 0, 0, 0⟩ : Ty)]) := r2.keeps (S := fun q => q = ob) (Keeps.setCell (S := fun q => q = ob) (Keeps.refl _ w2) (.inr rfl) _) (fun q hq e => by cases hq; exact hg2o e)
          have K4 : Keeps (fun q => bs ≤ q ∨ q = ob) wr (w2.setCell ⟨ob, i, none⟩ (.int .i64 M)) := (K2.mono (fun _ _ h => .inl h)).setCell (.inr (.inr rfl)) _
          have hnl2 : n < (T.l ++ [(⟨(i : Int), (k : Int), 0, 0, 0, 0, 0⟩ : Ty)]).length := by rw [HN.out]; simp
          have N1 := NT _ (n + 1) cap2 g2 _ n ⟨(i : Int), (k : Int), 0, 0, 0, 0, 0⟩ r4 hnl2 (by simp [HN.out]) ⟨Int.le_refl 0, (by decide : (0 : Int) < 4611686018427387904)⟩ ⟨Int.le_refl 0, (by decide : (0 : Int) < 4611686018427387904)⟩
          have HK : Hid (Keeps (fun q => bs ≤ q ∨ q = ob) wr (w2.setCell ⟨ob, i, none⟩ (.int .i64 M)) ∧ Op8 (w2.setCell ⟨ob, i, none⟩ (.int .i64 M)) ob (T.o.set i (n + 1)) ∧ bs ≤ g2 ∧ g2 ≠ ob) := ⟨K4, hop3, hg2, hg2o⟩
          clear r1 hs2 oa ba ka HT hop hop2 hb2 e2 hg2 r2 r3 K2 NT hown hM hn1 hn0 hnz hnl hKl r4 K4 hg2o hnl2 hop3
          go_wp2_with (at_builtin; refine wpList_append_run rfl _ _ 64 rfl rfl rfl HR.out ?_; clear HR)
          refine N1.mono ?_
          rintro ex w3 ⟨rfl, o3, k3⟩
          have ch : w3.cell? ⟨g2, n * 7 + 4, none⟩ = some (.int .i64 0) := by
            obtain ⟨gx, offx, hx, q⟩ := (o3.els ty_len).at n (by rw [List.length_set, HN.out]; simp)
            simp only [Option.some.injEq, Addr.mk.injEq, and_true] at hx
            obtain ⟨rfl, rfl⟩ := hx
            have := q 4 (.int .i64 0) (by rw [List.getElem_set_self]; rfl)
            simpa using this
          have HE : Hid (OwnR Ty.cl 7 54 w3 bs (.slice (some ⟨g2, 0, none⟩) (n + 1) cap2) ((T.l ++ [(⟨(i : Int), (k : Int), 0, 0, 0, 0, 0⟩ : Ty)]).set n (noteT ⟨(i : Int), (k : Int), 0, 0, 0, 0, 0⟩ k ⟨(i : Int), 1, ad, wd, own, er⟩)) ∧ Op8 w3 ob (T.o.set i (n + 1)) ∧ Keeps (fun q => bs ≤ q ∨ q = ob) wr w3) := ⟨o3, HK.out.2.1.keeps k3 (fun e => HK.out.2.2.2 e.symm), HK.out.1.trans (k3.mono (fun q _ e => .inl (e ▸ HK.out.2.2.1)))⟩
          clear N1 o3 k3 x0 x1 x2 x3 x4 x5 c0 c1 c2 c3 c4 c5 co co2 fo fo2 hlen HK
          go_wp2_with fail
          go_roundw
          · obtain ⟨E1, E2, E3⟩ := HE.out
            obtain ⟨X1, X2, X3⟩ := HX.out
            have hn := HN.out
            have kf := kr.young E3 (fun q hq => by omega)
            refine ⟨k + 1, _, by simp, by omega, ⟨?_, HS.out.symm⟩, (E3.block _ (lt_of_block br1) (by omega)).trans br1, (E3.block _ (lt_of_block br2) (by omega)).trans br2, kf⟩
            rw [← hn]
            refine ⟨E1, E2, fun q hq => ?_, fun t ht => ?_⟩
            · unfold Tr.at
              simp only [List.length_set, List.length_append, List.length_singleton]
              rw [List.getElem?_set]
              split
              · split
                · simp; omega
                · simp
              · have := X1 q hq
                unfold Tr.at at this
                omega
            · rcases mem_set_or ht with q | q
              · rcases List.mem_append.1 q with q | q
                · have := X2 t q; omega
                · simp only [List.mem_singleton] at q
                  subst q
                  exact ⟨⟨Int.le_refl 0, by simp; omega⟩, ⟨Int.le_refl 0, by simp; omega⟩⟩
              · rw [q]; exact noteT_cnt ⟨⟨Int.le_refl 0, by simp⟩, ⟨Int.le_refl 0, by simp⟩⟩
          · simp [intOf]; omega
        · have HX : Hid ((∀ i, i < 8 → T.at i ≤ T.l.length) ∧ (∀ t ∈ T.l, (0 ≤ t.rd ∧ t.rd ≤ k) ∧ (0 ≤ t.wr ∧ t.wr ≤ k)) ∧ T.o.length = 8) := ⟨hat, hcnt, ho8⟩
          have SB1 := SB h1
          have SC1 := SC h1
          have SD1 := SD h1
          have e2 := ba
          have hai := hat i hi8
          have hnl : T.l.length < 1152921504606846976 := by omega
          clear SA SB SC SD hat hcnt ho8 hbk hh HT
          cases hta : T.at i with
          | zero =>
            rw [SB1 hta] at hst
            have HS : Hid (triesF tr0 (L.take (k + 1)) 0 = _) := hst
            have HE : Hid (OwnR Ty.cl 7 54 (wr.alloc (.cells #[.int .i64 (i : Int), .int .i64 kd, .int .u64 ad, .int .u64 wd, .bool own, .int .i64 er] 60)) bs u5 T.l ∧ Op8 (wr.alloc (.cells #[.int .i64 (i : Int), .int .i64 kd, .int .u64 ad, .int .u64 wd, .bool own, .int .i64 er] 60)) ob T.o ∧ Keeps (fun q => bs ≤ q ∨ q = ob) wr (wr.alloc (.cells #[.int .i64 (i : Int), .int .i64 kd, .int .u64 ad, .int .u64 wd, .bool own, .int .i64 er] 60))) := ⟨oa, hop.keeps ka (fun f => f), ka.mono (fun _ _ f => f.elim)⟩
            replace co : wr.cell? ⟨ob, i, none⟩ = some (.int .i64 0) := by rw [co, hta]; rfl
            clear hst SB1 SC1 SD1 NT oa ba e2 ka hop hown hKl hta hai hnl
            go_wp2_with fail
            go_roundw
            · obtain ⟨E1, E2, E3⟩ := HE.out
              obtain ⟨X1, X2, X3⟩ := HX.out
              have kf := kr.young E3 (fun q hq => by omega)
              refine ⟨k + 1, T, by simp, by omega, ⟨⟨E1, E2, X1, fun t ht => by have := X2 t ht; omega⟩, HS.out.symm⟩, (E3.block _ (lt_of_block br1) (by omega)).trans br1, (E3.block _ (lt_of_block br2) (by omega)).trans br2, kf⟩
            · simp [intOf]; omega
          | succ j =>
            have hj : j < T.l.length := by omega
            obtain ⟨g2, cap2, cur2, hv2, hg2, hb2, hs2⟩ := hown.at (by omega)
            obtain ⟨n, hn⟩ : ∃ n, n = T.l.length := ⟨_, rfl⟩
            have HN : Hid (n = T.l.length) := hn
            rw [← hn] at hv2
            subst hv2
            obtain ⟨M, hM⟩ : ∃ M : Int, M = (j : Int) + 1 := ⟨_, rfl⟩
            rw [hta, show ((j + 1 : Nat) : Int) = M by omega] at co
            have hM0 : ¬ M = 0 := by omega
            have hsub : IntKind.i64.wrap (M - 1) = (j : Int) := by rw [IntKind.wrap_i64]; omega
            have hjn : (j : Int) < n := by omega
            have hj0 : (0 : Int) ≤ j := by omega
            have hq := HX.out.2.1 _ (List.getElem_mem hj)
            have N1 := NT _ n cap2 g2 _ j (T.l[j]) oa hj rfl ⟨hq.1.1, by omega⟩ ⟨hq.2.1, by omega⟩
            have HNC : Hid ((0 ≤ (noteT (T.l[j]) k ⟨(i : Int), kd, ad, wd, own, er⟩).rd ∧ (noteT (T.l[j]) k ⟨(i : Int), kd, ad, wd, own, er⟩).rd ≤ (k + 1 : Nat)) ∧ (0 ≤ (noteT (T.l[j]) k ⟨(i : Int), kd, ad, wd, own, er⟩).wr ∧ (noteT (T.l[j]) k ⟨(i : Int), kd, ad, wd, own, er⟩).wr ≤ (k + 1 : Nat))) := noteT_cnt hq
            have SC2 : Hid ((noteT (T.l[j]) k ⟨(i : Int), kd, ad, wd, own, er⟩).how = 0 → stepT T k ⟨(i : Int), kd, ad, wd, own, er⟩ = ⟨T.l.set j (noteT (T.l[j]) k ⟨(i : Int), kd, ad, wd, own, er⟩), T.o⟩) := SC1 j hta hj
            have SD2 : Hid ((noteT (T.l[j]) k ⟨(i : Int), kd, ad, wd, own, er⟩).how ≠ 0 → stepT T k ⟨(i : Int), kd, ad, wd, own, er⟩ = ⟨T.l.set j (noteT (T.l[j]) k ⟨(i : Int), kd, ad, wd, own, er⟩), T.o.set i 0⟩) := SD1 j hta hj
            have HS : Hid (triesF tr0 (L.take (k + 1)) 0 = stepT T k ⟨(i : Int), kd, ad, wd, own, er⟩) := hst
            have HK : Hid (Op8 (wr.alloc (.cells #[.int .i64 (i : Int), .int .i64 kd, .int .u64 ad, .int .u64 wd, .bool own, .int .i64 er] 60)) ob T.o ∧ bs ≤ g2 ∧ g2 ≠ ob ∧ Keeps (fun q => bs ≤ q ∨ q = ob) wr (wr.alloc (.cells #[.int .i64 (i : Int), .int .i64 kd, .int .u64 ad, .int .u64 wd, .bool own, .int .i64 er] 60)) ∧ g2 < wr.heap.size ∧ j < T.l.length) := ⟨hop.keeps ka (fun f => f), hg2, by omega, ka.mono (fun _ _ f => f.elim), lt_of_block hb2, hj⟩
            have EB : Hid ((wr.alloc (.cells #[.int .i64 (i : Int), .int .i64 kd, .int .u64 ad, .int .u64 wd, .bool own, .int .i64 er] 60)).heap[wr.heap.size]? = some (.cells #[.int .i64 (i : Int), .int .i64 kd, .int .u64 ad, .int .u64 wd, .bool own, .int .i64 er] 60 (0, 0))) := ba
            generalize noteT (T.l[j]) k ⟨(i : Int), kd, ad, wd, own, er⟩ = nt at *
            have hobw : ¬ ob = wr.heap.size := by omega
            clear hst SB1 SC1 SD1 NT oa ba e2 ka hop hown hKl hta hai hM hn hq hs2 hb2 hg2 hj hnl
            go_wp2_with fail
            refine N1.mono ?_
            rintro ex w3 ⟨rfl, o3, k3⟩
            have ch : w3.cell? ⟨g2, j * 7 + 4, none⟩ = some (.int .i64 nt.how) := by
              obtain ⟨gx, offx, hx, q⟩ := (o3.els ty_len).at j (by rw [List.length_set]; exact HK.out.2.2.2.2.2)
              simp only [Option.some.injEq, Addr.mk.injEq, and_true] at hx
              obtain ⟨rfl, rfl⟩ := hx
              have := q 4 (.int .i64 nt.how) (by rw [List.getElem_set_self]; rfl)
              simpa using this
            have op3 := HK.out.1.keeps k3 (fun e => HK.out.2.2.1 e.symm)
            have K3 := HK.out.2.2.2.1.trans (k3.mono (fun q _ e => .inl (e ▸ HK.out.2.1)))
            have eb3 : w3.heap[wr.heap.size]? = _ := (k3.block _ (lt_of_block EB.out) (by have := HK.out.2.2.2.2.1; omega)).trans EB.out
            have c0 : w3.cell? ⟨wr.heap.size, 0, none⟩ = some (.int .i64 (i : Int)) := by rw [cell_of_block eb3]; rfl
            have co3 : ∃ z, w3.cell? ⟨ob, i, none⟩ = some z := by
              obtain ⟨_, cs, q1, q2, q3⟩ := op3
              exact ⟨_, by rw [cell_of_block q1, q3 i hi8]⟩
            obtain ⟨z, co3⟩ := co3
            have fo3 : w3.frozen? ⟨ob, i, none⟩ = false := by
              obtain ⟨_, cs, q1, _⟩ := op3
              exact frozen_of_block q1 _
            by_cases hho : nt.how = 0
            · rw [hho] at ch
              have HE : Hid (OwnR Ty.cl 7 54 w3 bs (.slice (some ⟨g2, 0, none⟩) n cap2) (T.l.set j nt) ∧ Op8 w3 ob T.o ∧ Keeps (fun q => bs ≤ q ∨ q = ob) wr w3 ∧ nt.how = 0) := ⟨o3, op3, K3, hho⟩
              clear N1 o3 k3 op3 K3 eb3 x0 x1 x2 x3 x4 x5 co fo hho
              go_wp2_with fail
              go_roundw
              · obtain ⟨E1, E2, E3, E4⟩ := HE.out
                obtain ⟨X1, X2, X3⟩ := HX.out
                have hn := HN.out
                have kf := kr.young E3 (fun q hq => by omega)
                refine ⟨k + 1, ⟨T.l.set j nt, T.o⟩, by simp, by omega, ⟨?_, ((HS.out).trans (SC2.out E4)).symm⟩, (E3.block _ (lt_of_block br1) (by omega)).trans br1, (E3.block _ (lt_of_block br2) (by omega)).trans br2, kf⟩
                refine ⟨E1, E2, fun q hq => ?_, fun t ht => ?_⟩
                · rw [List.length_set]; exact X1 q hq
                · rcases mem_set_or ht with q | q
                  · have := X2 t q; omega
                  · rw [q]; exact HNC.out
              · simp [intOf]; omega
            · have op4 : Op8 (w3.setCell ⟨ob, i, none⟩ (.int .i64 0)) ob (T.o.set i 0) := op3.set i hi8 0
              have HE : Hid (OwnR Ty.cl 7 54 (w3.setCell ⟨ob, i, none⟩ (.int .i64 0)) bs (.slice (some ⟨g2, 0, none⟩) n cap2) (T.l.set j nt) ∧ Op8 (w3.setCell ⟨ob, i, none⟩ (.int .i64 0)) ob (T.o.set i 0) ∧ Keeps (fun q => bs ≤ q ∨ q = ob) wr (w3.setCell ⟨ob, i, none⟩ (.int .i64 0)) ∧ nt.how ≠ 0) := ⟨o3.keeps (S := fun q => q = ob) (Keeps.setCell (S := fun q => q = ob) (Keeps.refl _ w3) (.inr rfl) _) (fun q hq e => by cases hq; exact HK.out.2.2.1 e), op4, K3.setCell (.inr (.inr rfl)) _, hho⟩
              clear N1 o3 k3 op3 K3 eb3 x0 x1 x2 x3 x4 x5 co fo op4
              go_wp2_with fail
              go_roundw
              · obtain ⟨E1, E2, E3, E4⟩ := HE.out
                obtain ⟨X1, X2, X3⟩ := HX.out
                have hn := HN.out
                have kf := kr.young E3 (fun q hq => by omega)
                refine ⟨k + 1, ⟨T.l.set j nt, T.o.set i 0⟩, by simp, by omega, ⟨?_, ((HS.out).trans (SD2.out E4)).symm⟩, (E3.block _ (lt_of_block br1) (by omega)).trans br1, (E3.block _ (lt_of_block br2) (by omega)).trans br2, kf⟩
                refine ⟨E1, E2, fun q hq => ?_, fun t ht => ?_⟩
                · rw [List.length_set]
                  unfold Tr.at
                  dsimp only
                  rw [List.getElem?_set]
                  split
                  · split <;> simp
                  · exact X1 q hq
                · rcases mem_set_or ht with q | q
                  · have := X2 t q; omega
                  · rw [q]; exact HNC.out
              · simp [intOf]; omega
      · obtain rfl : k = L.length := by omega
        have HO : Hid (OwnR Ty.cl 7 54 wr w.heap.size u5 (triesL L)) := by
          have h1 := hh.out.1.own.lowE (b := w.heap.size) (by omega)
          rw [hh.out.2, List.take_length] at h1
          exact h1
        have B2 := br1
        have bA := br2
        have c0 : wr.cell? ⟨w.heap.size, 0, none⟩ = some (.int .i64 0) := by rw [cell_of_block B2]; rfl
        have c1 : wr.cell? ⟨w.heap.size, 1, none⟩ = some (.int .i64 0) := by rw [cell_of_block B2]; rfl
        have f0 : wr.frozen? ⟨w.heap.size, 0, none⟩ = false := frozen_of_block B2 _
        have f1 : wr.frozen? ⟨w.heap.size, 1, none⟩ = false := frozen_of_block B2 _
        have hS0 : wr.cell? ⟨N, 0, none⟩ = some (.int .i64 (-1)) ∧ wr.cell? ⟨N, 1, none⟩ = some (.int .i64 0) := ⟨by rw [cell_of_block bA]; rfl, by rw [cell_of_block bA]; rfl⟩
        have hne : ¬ w.heap.size = N := by omega
        have BE : Hid (((wr.setCell ⟨w.heap.size, 0, none⟩ (.int .i64 (-1))).setCell ⟨w.heap.size, 1, none⟩ (.int .i64 0)).heap[w.heap.size]? = some (.cells (odV (-1) 0) 31 (0, 0))) := block_set (block_set B2 0 (.int .i64 (-1))) 1 (.int .i64 0)
        have KE := kr
        have hug : ∀ g, u5.ownBlock = some g → bs ≤ g := fun g hg => (own_block hh.out.1.own.own hg).2
        have HG : Hid (∀ g, u5.ownBlock = some g → w.heap.size < g) := fun g hg => by have := hug g hg; omega
        clear bA B2 br1 br2 hug hh
        go_wp2_with fail
        go_region_held3 (fun W : World => W.cell? ⟨N, 0, none⟩ = some (.int .i64 (-1)) ∧ W.cell? ⟨N, 1, none⟩ = some (.int .i64 0)) (first | assumption | (exact hS0) | go_keep) (fail)
        go_wp2_with fail
        refine bodyPost_ret (odd_ret2 rfl _ _ w.heap.size (odV (-1) 0) BE.out rfl rfl) rfl ?_
        have KF := (((Keeps.refl (fun q => q = w.heap.size) wr).setCell (p := ⟨w.heap.size, 0, none⟩) (.inr rfl) (.int .i64 (-1))).setCell (p := ⟨w.heap.size, 1, none⟩) (.inr rfl) (.int .i64 0)).drew
        exact ⟨_, rfl, HO.out.keeps KF (fun g hg e => by have := HG.out g hg; omega), (((KE.setCell (.inl (Nat.le_refl _)) _).setCell (.inl (Nat.le_refl _)) _).drew)⟩
  · rw [if_neg hce]
    clear hch hfm hB CK
    go_enter Tryz.func38, Tryz.ntmps38
    go_wp2_with fail
    refine CC.mono ?_
    rintro ex w1 ⟨rfl, k1⟩
    have K1 := k0.trans k1
    have B1 := (k1.block _ (lt_of_block b0) (fun f => f)).trans b0
    clear CC k0 k1 b0
    have kA := (Keeps.refl (fun _ => False) w1).alloc (.cells #[.int .i64 ca, .int .i64 ce] 31)
    have bA := (MapKept.heap_alloc w1 (.cells #[.int .i64 ca, .int .i64 ce] 31)).1
    have B2 := (kA.block _ (lt_of_block B1) (fun f => f)).trans B1
    have hlt1 := lt_of_block B1
    go_wp2_with fail
    generalize hW : w1.alloc (.cells #[.int .i64 ca, .int .i64 ce] 31) = W at *
    have c0 : W.cell? ⟨w.heap.size, 0, none⟩ = some (.int .i64 0) := by rw [cell_of_block B2]; rfl
    have c1 : W.cell? ⟨w.heap.size, 1, none⟩ = some (.int .i64 0) := by rw [cell_of_block B2]; rfl
    have f0 : W.frozen? ⟨w.heap.size, 0, none⟩ = false := frozen_of_block B2 _
    have f1 : W.frozen? ⟨w.heap.size, 1, none⟩ = false := frozen_of_block B2 _
    have hS0 : W.cell? ⟨w1.heap.size, 0, none⟩ = some (.int .i64 ca) ∧ W.cell? ⟨w1.heap.size, 1, none⟩ = some (.int .i64 ce) := ⟨by rw [cell_of_block bA]; rfl, by rw [cell_of_block bA]; rfl⟩
    have hne : ¬ w.heap.size = w1.heap.size := by omega
    have BE : Hid (∀ X : World, X.heap = W.heap → ((X.setCell ⟨w.heap.size, 0, none⟩ (.int .i64 ca)).setCell ⟨w.heap.size, 1, none⟩ (.int .i64 ce)).heap[w.heap.size]? = some (.cells (odV ca ce) 31 (0, 0))) := fun X hX => by
      have := block_set (block_set (w := X) (by rw [hX]; exact B2) 0 (.int .i64 ca)) 1 (.int .i64 ce)
      exact this
    have KE := K1.trans kA
    clear hW kA bA B2 K1
    go_region_held3 (fun W : World => W.cell? ⟨w1.heap.size, 0, none⟩ = some (.int .i64 ca) ∧ W.cell? ⟨w1.heap.size, 1, none⟩ = some (.int .i64 ce)) (first | assumption | (exact hS0) | go_keep) (fail)
    go_wp2_with fail
    refine bodyPost_ret (odd_ret2 rfl _ _ w.heap.size (odV ca ce) (BE.out W rfl) rfl rfl) rfl ?_
    exact ⟨_, rfl, OwnR.nilB _ _ _ _ _ (Nat.le_trans KE.size (by simp)), (((KE.setCell (.inl (Nat.le_refl _)) _).setCell (.inl (Nat.le_refl _)) _).drew)⟩
end Go.Proofs.YthmiainhaebjiaaGreatDoor


/- A walk of look (layer 16). No statement of the seat is proved here. -/
namespace Go.Proofs.YthmiainhaebjiaaGreatDoor
open Go.RowKit Go.Shelf

theorem MapS.new (w : World) : MapS (w.alloc (.map #[] 0)) w.heap.size (fun _ => none) := ⟨#[], 0, [], (MapKept.heap_alloc w (.map #[] 0)).1, rfl, List.nodup_nil, fun _ => rfl, fun x hx => by simp at hx, List.nodup_nil⟩
@[go_sem] theorem run_mkMapS (w : World) : (Instr.makeMap 66 none).run Tryz.prog w = .ok (.map (some w.heap.size)) (w.alloc (.map #[] 0)) := by
  simp [Instr.makeMap, Result.andThen]
theorem tries_bound {L : List Ev} (hl : L.length ≤ 1050000) (hz : (checkL L).2 = 0) (k : Nat) (hk : k < L.length) : ((triesF tr0 (L.take k) 0).l.length + 1) * 56 ≤ 140737488355328 := by
  have := tries_few hz k (by omega); omega
/-- What look answers of a history here. -/
def LkPost (F : List Int) (L : List Ev) (vF : Value) (w : World) (ex : Ending) (w' : World) : Prop :=
  ∃ (pb mb b2 : Nat) (vT vB vW : Value) (X Y : List Bx) (f : Int → Option Sl), ex = .returned (.tuple #[.pointer (some ⟨pb, 0, none⟩), .agg (odV (-1) 0)]) ∧ PaAt w' pb mb b2 vF vT vB vW F (triesL L) X Y f ∧ X.map (·.p) = partsL L ∧ PuA F (triesL L) X Y ∧ Keeps (fun _ => False) w w'
set_option maxRecDepth 100000 in
set_option maxHeartbeats 8000000 in
theorem look_ok (va : Option Addr) (vc : Nat) (F : List Int) (v : Value) (L : List Ev) (hl : L.length ≤ 1050000) (w : World) (hv : EvsAt w v L) (hF : WsAt w (.slice va F.length vc) F) (hg : Gv w) (h8 : 2 ≤ w.heap.size) (hF0 : 0 < F.length) (hF1 : F.length ≤ 65536) (hz : (checkL L).2 = 0) (hp : idxF plainE L 0 = -1) (hm : idxF (missE F.length) L 0 = -1) :
    Calls Tryz.prog 21 #[.slice va F.length vc, v] w (LkPost F L (.slice va F.length vc) w) := by
  have hck : checkL L = (-1, 0) := chk_yes L st0 0 hz
  have k0 := (Keeps.refl (fun _ => False) w).alloc (.cells (odV 0 0) 31)
  have b0 : (w.alloc (.cells (odV 0 0) 31)).heap[w.heap.size]? = some (.cells (odV 0 0) 31 (0, 0)) := (MapKept.heap_alloc w _).1
  have hs0 : (w.alloc (.cells (odV 0 0) 31)).heap.size = w.heap.size + 1 := by simp
  have TR := tries_any v L (w.alloc (.cells (odV 0 0) 31)) (hv.keeps k0) (hg.keeps k0) (by omega) (fun hz => tries_bound hl hz)
  rw [hck] at TR
  dsimp only at TR
  rw [if_pos rfl, hs0] at TR
  unfold odV at TR k0 b0
  have HV : Hid (∀ X, Keeps (fun _ => False) w X → EvsAt X v L ∧ Gv X ∧ WsAt X (.slice va F.length vc) F) := fun X k => ⟨hv.keeps k, hg.keeps k, hF.keeps wC_ne k⟩
  have HFb : Hid (∀ a n c, Value.slice va F.length vc = .slice (some a) n c → a.block < w.heap.size) := fun a n c e => by
    obtain ⟨g, off, e1, hc⟩ := hF.at 0 hF0
    injection e with e2
    rw [e1] at e2
    injection e2 with e2
    rw [← e2]
    exact World.block_lt_of_cell? _ _ (hc 0 _ rfl)
  have HWF : Hid (∀ e ∈ L, 0 ≤ e.ad) := fun e he => (hv.wf e he).2.2.1.1
  obtain ⟨a1, cap1, rfl, hcap⟩ := hv.els.shape
  have hFn : ¬ ((F.length : Int) = 0) := by omega
  have hFb2 : ((F.length : Int) == 0) = false := by rw [beq_eq_false_iff_ne]; exact hFn
  have hFg : ¬ ((F.length : Int) > 65536) := by omega
  have HHp : Hid (idxF plainE L 0 = -1 ∧ idxF (missE F.length) L 0 = -1 ∧ (checkL L).2 = 0) := ⟨hp, hm, hz⟩
  clear hv hF hg hp hm hz hck hs0
  go_enter Tryz.func21, Tryz.ntmps21
  go_wp2_with fail
  refine TR.mono ?_
  rintro ex w1 ⟨tv, rfl, hT, k1⟩
  clear TR
  obtain ⟨ta, tc, rfl⟩ := hT.form
  have K1 := k0.trans k1
  have B1 := (k1.block _ (lt_of_block b0) (fun f => f)).trans b0
  have kA := (Keeps.refl (fun _ => False) w1).alloc (.cells #[.int .i64 (-1), .int .i64 0] 31)
  have bA := (MapKept.heap_alloc w1 (.cells #[.int .i64 (-1), .int .i64 0] 31)).1
  have hsA : (w1.alloc (.cells #[.int .i64 (-1), .int .i64 0] 31)).heap.size = w1.heap.size + 1 := by simp
  have kM := (Keeps.refl (fun _ => False) (w1.alloc (.cells #[.int .i64 (-1), .int .i64 0] 31))).alloc (.map #[] 0)
  have mM := MapS.new (w1.alloc (.cells #[.int .i64 (-1), .int .i64 0] 31))
  rw [hsA] at mM
  have hsM : ((w1.alloc (.cells #[.int .i64 (-1), .int .i64 0] 31)).alloc (.map #[] 0)).heap.size = w1.heap.size + 2 := by simp
  have kP := (Keeps.refl (fun _ => False) ((w1.alloc (.cells #[.int .i64 (-1), .int .i64 0] 31)).alloc (.map #[] 0))).alloc (.cells #[.slice va F.length vc, .slice ta (triesL L).length tc, .slice none 0 0, .slice none 0 0, .map (some (w1.heap.size + 1))] 68)
  have bP := (MapKept.heap_alloc ((w1.alloc (.cells #[.int .i64 (-1), .int .i64 0] 31)).alloc (.map #[] 0)) (.cells #[.slice va F.length vc, .slice ta (triesL L).length tc, .slice none 0 0, .slice none 0 0, .map (some (w1.heap.size + 1))] 68)).1
  rw [hsM] at bP
  have KZ := ((K1.trans kA).trans kM).trans kP
  have B0Z := ((((kA.trans kM).trans kP).block _ (lt_of_block B1) (fun f => f)).trans B1)
  have bAZ := ((kM.trans kP).block _ (lt_of_block bA) (fun f => f)).trans bA
  have mZ := mM.keeps kP (fun f => f)
  have hTZ := hT.keeps ((kA.trans kM).trans kP) (fun _ _ f => f)
  have hTl : ∀ q, (Value.slice ta (triesL L).length tc).ownBlock = some q → q < w1.heap.size := fun q hq => (own_block hT.own hq).1
  have hw1 : w.heap.size < w1.heap.size := lt_of_block B1
  have IPx := idx_plain (.slice a1 L.length cap1) L _ (HV.out _ KZ).1
  rw [HHp.out.1] at IPx
  obtain ⟨Z, hZ⟩ : ∃ Z, Z = ((w1.alloc (.cells #[.int .i64 (-1), .int .i64 0] 31)).alloc (.map #[] 0)).alloc (.cells #[.slice va F.length vc, .slice ta (triesL L).length tc, .slice none 0 0, .slice none 0 0, .map (some (w1.heap.size + 1))] 68) := ⟨_, rfl⟩
  rw [← hZ] at bP KZ B0Z bAZ mZ hTZ IPx
  have hsZ : Z.heap.size = w1.heap.size + 3 := by rw [hZ]; simp
  have HZ : Hid (Z = _) := hZ
  obtain ⟨m1, hm1⟩ : ∃ m1, m1 = w1.heap.size := ⟨_, rfl⟩
  clear kA bA hsA kM mM hsM kP hT k0 k1 b0 K1 B1
  go_wp2_with fail
  rw [← hZ, ← hm1]
  rw [← hm1] at bP bAZ mZ hsZ hw1 hTl
  clear hZ HZ hm1
  refine IPx.mono ?_
  rintro ex Z2 ⟨rfl, kz2⟩
  clear IPx
  have p0 : Z.cell? ⟨m1 + 2, 0, none⟩ = some (.slice va F.length vc) := by rw [cell_of_block bP]; rfl
  have IMx := idx_miss (.slice a1 L.length cap1) L (m1 + 2) F.length vc va Z2 (HV.out _ (KZ.trans kz2)).1 (kz2.cellB (fun f => f) p0) hF1
  rw [HHp.out.2.1] at IMx
  go_wp2_with fail
  refine IMx.mono ?_
  rintro ex Z3 ⟨rfl, kz3⟩
  clear IMx
  have K23 := kz2.trans kz3
  have hs3 := K23.size
  have BL := blocks_any (.slice a1 L.length cap1) L (by omega) HHp.out.2.2 Z3 (HV.out _ (KZ.trans K23)).1 (HV.out _ (KZ.trans K23)).2.1 (by have := KZ.size; omega)
  go_wp2_with fail
  refine BL.mono ?_
  rintro ex Z4 ⟨vB, X, rfl, hB, hX, k4⟩
  clear BL
  obtain ⟨xa, xc, hvB⟩ := hB.own.form
  subst hvB
  have K24 := K23.trans k4
  have bP4 := (K24.block _ (lt_of_block bP) (fun f => f)).trans bP
  have f2 : Z4.frozen? ⟨m1 + 2, 2, none⟩ = false := frozen_of_block bP4 _
  have p2 : Z4.cell? ⟨m1 + 2, 2, none⟩ = some (.slice none 0 0) := by rw [cell_of_block bP4]; rfl
  have bP5 := block_set bP4 2 (.slice xa X.length xc)
  change (Z4.setCell ⟨m1 + 2, 2, none⟩ (.slice xa X.length xc)).heap[m1 + 2]? = some (pastC (.slice va F.length vc) (.slice ta (triesL L).length tc) (.slice xa X.length xc) (.slice none 0 0) (m1 + 1)) at bP5
  have k5 := (Keeps.refl (fun q => q = m1 + 2) Z4).setCell (p := ⟨m1 + 2, 2, none⟩) (.inr rfl) (.slice xa X.length xc)
  have hB5 := hB.keeps k5 (fun q h1 h2 e => by omega)
  have hXl : X.length ≤ 1050000 := by
    rw [← List.length_map (f := (·.p)), hX]
    have := (pinv_parts L).len
    change (partsL L).length ≤ L.length at this
    omega
  have hbd : ∀ x ∈ X, x.p.rs.length ≤ 1050000 ∧ x.p.ws.length ≤ 1050000 := fun x hx => by
    have h1 : x.p ∈ partsL L := by rw [← hX]; exact List.mem_map.2 ⟨x, hx, rfl⟩
    have := (pinv_parts L).bd x.p h1
    omega
  have hinl : ∀ x ∈ X, (∀ e ∈ x.p.rs, 0 ≤ e.1 ∧ e.1 < (F.length : Int)) ∧ (∀ e ∈ x.p.ws, 0 ≤ e.1 ∧ e.1 < (F.length : Int)) := fun x hx => by
    have h1 : x.p ∈ partsL L := by rw [← hX]; exact List.mem_map.2 ⟨x, hx, rfl⟩
    refine inL_parts (n := F.length) (fun e he => ⟨HWF.out e he, fun hk => ?_⟩) x.p h1
    have hno : missE F.length e = false := by
      rcases idxF_in (missE F.length) L 0 with ⟨_, h⟩ | ⟨j, h, _⟩
      · exact h e he
      · rw [HHp.out.2.1] at h; omega
    unfold missE at hno
    rcases hk with hk | hk <;> · rw [hk] at hno; simpa using hno
  have SE := settle_any (m1 + 2) (m1 + 1) Z3.heap.size (.slice va F.length vc) (.slice ta (triesL L).length tc) (.slice xa X.length xc) F X hXl (by rw [hX]; exact distL_parts L) (fun x hx => (hinl x hx).2) (fun x hx => (hbd x hx).2) (by omega) (by omega) (by omega) _ bP5 ((mZ.keeps K24 (fun f => f)).keeps k5 (by omega)) ((HV.out _ (KZ.trans K24)).2.2.keepsB wC_ne k5 (fun a n c e h => by have := HFb.out a n c e; omega)) (fun a n c e => by have := HFb.out a n c e; omega) hB5
  have HX : Hid (X.map (·.p) = partsL L) := hX
  have HBD : Hid ((∀ x ∈ X, x.p.rs.length ≤ 1050000 ∧ x.p.ws.length ≤ 1050000) ∧ (∀ x ∈ X, (∀ e ∈ x.p.rs, 0 ≤ e.1 ∧ e.1 < (F.length : Int)) ∧ (∀ e ∈ x.p.ws, 0 ≤ e.1 ∧ e.1 < (F.length : Int)))) := ⟨hbd, hinl⟩
  have HTX : Hid ((triesL L).length = X.length ∧ ∀ t ∈ triesL L, t.fi ≤ t.la ∧ 0 ≤ t.fi ∧ t.la < 1100000) := by
    have h1 := tries_parts HHp.out.2.2
    have h2 := congrArg List.length h1
    rw [List.length_map, List.length_map] at h2
    refine ⟨by rw [h2, ← hX, List.length_map], fun t ht => ⟨tries_le HHp.out.2.2 t ht, ?_⟩⟩
    have h3 : key3T t ∈ (partsL L).map key3 := by rw [← h1]; exact List.mem_map.2 ⟨t, ht, rfl⟩
    obtain ⟨p, hp, e⟩ := List.mem_map.1 h3
    have := (pinv_parts L).bd p hp
    unfold key3 key3T at e
    injection e with _ e
    injection e with e1 e2
    omega
  generalize hZ5 : Z4.setCell ⟨m1 + 2, 2, none⟩ (.slice xa X.length xc) = Z5 at *
  have K45 : Keeps (fun q => q = m1 + 2) Z Z5 := (K24.mono fun _ _ f => f.elim).trans k5
  have HK5 : Hid (Keeps (fun q => q = m1 + 2) Z Z5 ∧ RwL Bx.cb 9 73 Z5 Z3.heap.size (.slice xa X.length xc) X) := ⟨K45, hB5⟩
  clear k5 K45 hB5 hB hX hbd hinl k4 bP4 bP5
  go_wp2_with fail
  clear hZ5
  refine SE.mono ?_
  rintro ex Z6 ⟨rfl, vW, Y, f, q1, q2, hse⟩
  clear SE f2 p2
  have K6 : Keeps (fun q => q = m1 + 2 ∨ q = m1 + 1) Z Z6 := (HK5.out.1.mono fun q _ e => .inl e).trans hse.kp
  have b7 := (K6.block _ (lt_of_block bAZ) (by omega)).trans bAZ
  have bO := (K6.block _ (lt_of_block B0Z) (by omega)).trans B0Z
  have hS0 : Z6.cell? ⟨m1, 0, none⟩ = some (.int .i64 (-1)) ∧ Z6.cell? ⟨m1, 1, none⟩ = some (.int .i64 0) := ⟨by rw [cell_of_block b7]; rfl, by rw [cell_of_block b7]; rfl⟩
  have c0 : Z6.cell? ⟨w.heap.size, 0, none⟩ = some (.int .i64 0) := by rw [cell_of_block bO]; rfl
  have c1 : Z6.cell? ⟨w.heap.size, 1, none⟩ = some (.int .i64 0) := by rw [cell_of_block bO]; rfl
  have f0 : Z6.frozen? ⟨w.heap.size, 0, none⟩ = false := frozen_of_block bO _
  have f1 : Z6.frozen? ⟨w.heap.size, 1, none⟩ = false := frozen_of_block bO _
  have hne : ¬ w.heap.size = m1 := by omega
  have BE : Hid (((Z6.setCell ⟨w.heap.size, 0, none⟩ (.int .i64 (-1))).setCell ⟨w.heap.size, 1, none⟩ (.int .i64 0)).heap[w.heap.size]? = some (.cells (odV (-1) 0) 31 (0, 0))) := block_set (block_set bO 0 (.int .i64 (-1))) 1 (.int .i64 0)
  have HF : Hid (LkPost F L (.slice va F.length vc) w (.returned (.tuple #[.pointer (some ⟨m1 + 2, 0, none⟩), .agg (odV (-1) 0)])) ((Z6.setCell ⟨w.heap.size, 0, none⟩ (.int .i64 (-1))).setCell ⟨w.heap.size, 1, none⟩ (.int .i64 0)).drew) := by
    have kE := (((Keeps.refl (fun q => q = w.heap.size) Z6).setCell (p := ⟨w.heap.size, 0, none⟩) (.inr rfl) (.int .i64 (-1))).setCell (p := ⟨w.heap.size, 1, none⟩) (.inr rfl) (.int .i64 0)).drew
    generalize ((Z6.setCell ⟨w.heap.size, 0, none⟩ (.int .i64 (-1))).setCell ⟨w.heap.size, 1, none⟩ (.int .i64 0)).drew = ZE at *
    have K7 : Keeps (fun q => q = m1 + 2 ∨ q = m1 + 1 ∨ q = w.heap.size) Z ZE := (K6.mono fun q _ e => by omega).trans (kE.mono fun q _ e => by omega)
    have KW : Keeps (fun _ => False) w ZE := KZ.young K7 (fun q e => by omega)
    have hlo := hse.lo
    have h5s := HK5.out.1.size
    have hT6 := hTZ.keeps K7 (fun q hq e => by have h1 := (own_block hTZ.own hq); have h2 : q < m1 := by
                                                 rcases hTZ.own.2 with ⟨h3, _⟩ | _
                                                 · rw [h3] at hq; simp [Value.ownBlock] at hq
                                                 · exact hTl q hq
                                               omega)
    refine ⟨m1 + 2, m1 + 1, q2, _, _, vW, X, Y, f, rfl, ⟨(kE.block _ (lt_of_block hse.blk) (by omega)).trans hse.blk, (HV.out ZE KW).2.2, hT6.els ty_len, ?_, fun x hx => ?_, fun x hx => ?_, ?_, ?_⟩, HX.out, ⟨hse.up, hse.perm, hXl, HTX.out.1, HBD.out.2, HBD.out.1, hF1, HTX.out.2⟩, KW⟩
    · exact ((HK5.out.2.own.keeps hse.kp (fun q hq e => by have := own_block HK5.out.2.own.own hq; omega)).keeps kE (fun q hq e => by have := own_block HK5.out.2.own.own hq; omega)).els cb_len
    · exact (((HK5.out.2.rws.rd x hx).keeps hse.kp (fun q hq e => by have := own_block (HK5.out.2.rws.rd x hx).own hq; omega)).keeps kE (fun q hq e => by have := own_block (HK5.out.2.rws.rd x hx).own hq; omega)).els en_len
    · exact (((HK5.out.2.rws.wt x hx).keeps hse.kp (fun q hq e => by have := own_block (HK5.out.2.rws.wt x hx).own hq; omega)).keeps kE (fun q hq e => by have := own_block (HK5.out.2.rws.wt x hx).own hq; omega)).els en_len
    · exact (hse.row.keeps kE (fun q hq e => by have := own_block hse.row.own hq; omega)).els cb_len
    · exact hse.st.keeps kE (by omega) (fun q h1 h2 e => by omega)
  clear b7 bO K6 hse bAZ B0Z mZ hTZ bP KZ
  go_wp2_with fail
  go_region_held3 (fun W : World => W.cell? ⟨m1, 0, none⟩ = some (.int .i64 (-1)) ∧ W.cell? ⟨m1, 1, none⟩ = some (.int .i64 0)) (first | assumption | (exact hS0) | go_keep) (fail)
  go_wp2_with fail
  refine bodyPost_ret (odd_ret2 rfl _ _ w.heap.size (odV (-1) 0) BE.out rfl rfl) rfl ?_
  exact HF.out
end Go.Proofs.YthmiainhaebjiaaGreatDoor
