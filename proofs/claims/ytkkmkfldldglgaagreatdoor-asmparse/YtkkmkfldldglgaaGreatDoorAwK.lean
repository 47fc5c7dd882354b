
/- The law's walk: what is read of a text is what the document reads. No statement of the seat is proved here. -/
import Derived.Test.YtkkmkfldldglgaaGreatDoorAwJ
import Derived.Test.YtkkmkfldldglgaaGreatDoorAuC
import Derived.Test.YtkkmkfldldglgaaGreatDoorAsU
import Derived.Deep.MidRow
namespace Go.Proofs.YtkkmkfldldglgaaGreatDoor
open Go.RowKit Go.Shelf

theorem Keeps.setCells {S : Nat → Prop} {a : World} {b : Nat} (hp : a.heap.size ≤ b ∨ S b) : ∀ (vs : List Value) (o : Nat) (w : World), Keeps S a w → Keeps S a (w.setCells b o vs)
  | [], _, _, h => h
  | v :: r, o, _, h => Keeps.setCells hp r (o + 1) _ (h.setCell (p := ⟨b, o, none⟩) hp v)
theorem block_setCells {b : Nat} {t : TypeId} : ∀ (vs : List Value) (o : Nat) (w : World) (c : Array Value), w.heap[b]? = some (.cells c t (0, 0)) → ∃ c', (w.setCells b o vs).heap[b]? = some (.cells c' t (0, 0)) ∧ c'.size = c.size
  | [], _, _, c, h => ⟨c, h, rfl⟩
  | v :: r, o, w, c, h => by
    obtain ⟨c', h1, h2⟩ := block_setCells r (o + 1) _ _ (block_set h o v)
    exact ⟨c', h1, by rw [h2]; simp⟩
theorem there_block {w : World} {b : Nat} {t : TypeId} {c : Array Value} (h : w.heap[b]? = some (.cells c t (0, 0))) (o n : Nat) (hn : o + n ≤ c.size) : w.there b o n := fun j hj => ⟨by rw [cell_of_block h, Array.getElem?_eq_getElem (by omega)]; rfl, frozen_of_block h _⟩
theorem wpList_store_run {P : Program} {ops : Array Oper} {rest : List Oper} {op : Oper} {a : Act} {w w' : World} {Q : Exit → Act → World → Prop} (hgd : op.guard = none) (ty : TypeId) (x y : Operand) (ho : op.op = .store ty x y) {p v : Value} (hx : a.eval x = p) (hy : a.eval y = v)
    (hr : (Instr.storeAt ty p v).run P w = .ok () w') (h : wpList P ops Q rest (a.put op.dst undef) w') : wpList P ops Q (op :: rest) a w :=
  wpList_plain hgd fun _ hK => by
    unfold Oper.wp execOp
    simp only [ho, hx, hy, hr, Sem.run_bind, Result.andThen_ok]
    exact hK _ _ h
theorem keeps_up {S : Nat → Prop} {a b c : World} (k : Keeps (fun _ => False) a b) (k2 : Keeps S b c) (hS : ∀ q, S q → a.heap.size ≤ q) : Keeps (fun _ => False) a c :=
  ⟨k2.os.trans k.os, k2.tape.trans k.tape, k2.output.trans k.output, Nat.le_trans k.size k2.size, fun g hg _ => (k2.block g (Nat.lt_of_lt_of_le hg k.size) (fun e => by have := hS g e; omega)).trans (k.block g hg (fun f => f))⟩
/-- A row that is there, to be written over. -/
def There (w : World) (v : Value) (n : Nat) (ty : TypeId) (sz : Nat) : Prop := n = 0 ∨ ∃ g cap cur, v = .slice (some ⟨g, 0, none⟩) n cap ∧ n ≤ cap ∧ w.heap[g]? = some (.cells cur ty (0, 0)) ∧ n * sz ≤ cur.size
theorem there_own {w : World} {base size : Nat} {e : TypeId} {v : Value} {n : Nat} {xs : List Value} (h : w.ownsRow base e size v n xs) : There w v n e size := by
  rcases h.2 with ⟨rfl, h2⟩ | ⟨g, cap, cur, rfl, h1, h2, h3, h4, h5, h6⟩
  · exact .inl h2
  · exact .inr ⟨g, cap, cur, rfl, h3, h2, by rw [h5]; exact Nat.mul_le_mul_right _ h3⟩
theorem size_lab : (Tryz.prog.info? 39).map (·.size) = some 2 := by kernel_rfl

theorem bodyK_len (l : List UInt8) : (bodyL l).length ≤ l.length := by
  unfold bodyL
  refine Nat.le_trans (List.takeWhile_sublist _).length_le ?_
  split
  · simp
  · exact Nat.le_refl _
theorem readR_tot : ∀ (L : List (List UInt8)) (r0 r : Rd) (n m : Nat), readR r0 n L = (m, some r) → totR r ≤ totR r0 + L.flatten.length + 2 * L.length
  | [], r0, r, n, m, h => by
    rw [readR] at h
    cases h
    simp
  | x :: L, r0, r, n, m, h => by
    rw [readR] at h
    cases hl : lineR r0 n (toks (bodyL x)) with
    | none => rw [hl] at h; cases h
    | some r1 =>
      rw [hl] at h
      have h1 := readR_tot L r1 r (n + 1) m h
      have h2 := lineR_len n _ _ _ hl
      have h3 := toks_len (bodyL x)
      have h4 := bodyK_len x
      simp only [List.flatten_cons, List.length_append, List.length_cons]
      omega
theorem resR_len : ∀ (us : List (List UInt8 × Nat × Nat)) (labs : List (List UInt8 × Nat)) (code c' : List I5), resR labs code us = (none, c') → c'.length = code.length
  | [], labs, code, c', h => by rw [resR] at h; cases h; rfl
  | (a, b, c) :: us, labs, code, c', h => by
    rw [resR] at h
    cases hl : labs.lookup a with
    | none => rw [hl] at h; cases h
    | some p =>
      rw [hl] at h
      have := resR_len us labs _ c' h
      rw [this, setN_len]
theorem readT_len {s : List UInt8} {n : Nat} {code : List I5} {labs : List (List UInt8 × Nat)} (h : readT s = (n, some (code, labs))) : code.length + labs.length ≤ 3 * s.length := by
  cases hr : readR ⟨[], [], []⟩ 0 (linesL s) with
  | mk m o =>
    cases o with
    | none => rw [readT_bad hr] at h; cases h
    | some r =>
      rw [readT_res hr] at h
      have h1 := readR_tot _ _ _ _ _ hr
      rw [linesL_flat] at h1
      have h2 := linesL_len s
      simp only [totR, List.length_nil] at h1
      cases hq : resR r.labs r.code r.uses with
      | mk a c' =>
        rw [hq] at h
        cases a with
        | some line => cases h
        | none =>
          cases h
          have := resR_len _ _ _ _ hq
          omega

/-- What is read of a text: by Parse, by Labels, by the document. -/
structure Tri (s : List UInt8) (n : Nat) (C : List I5) (M : List (List UInt8 × Nat)) (b : Bool) : Prop where
  clen : C.length ≤ 60000
  mlen : M.length ≤ 60000
  parse : ∀ X, Gp X → Calls Tryz.prog 10 #[.string ⟨s.toArray⟩] X fun e w' => (∃ v, e = .returned (.tuple #[v, .int .i64 (n : Int), .int .i64 (if b then 0 else 190)]) ∧ Irs w' X.heap.size v C ∧ ∀ i ∈ C, i.wf) ∧ Keeps (fun _ => False) X w'
  labs : ∀ X, Gp X → Calls Tryz.prog 11 #[.string ⟨s.toArray⟩] X fun e w' => (∃ v, e = .returned (.tuple #[v, .int .i64 (n : Int), .int .i64 (if b then 0 else 190)]) ∧ w'.ownsRow X.heap.size 39 2 v M.length (labV M)) ∧ Keeps (fun _ => False) X w'
  read : ∀ X, Calls Tryz.prog 12 #[.string ⟨s.toArray⟩] X fun e w' => (∃ v u, e = .returned (.tuple #[v, u, .int .i64 (n : Int), .bool b]) ∧ Irs w' X.heap.size v C ∧ w'.ownsRow X.heap.size 39 2 u M.length (labV M)) ∧ Keeps (fun _ => False) X w'
theorem tri_any (s : List UInt8) (hs : s.length ≤ 20000) : ∃ n C M b, Tri s n C M b := by
  cases hr : readT s with
  | mk n o =>
    cases o with
    | none =>
      refine ⟨n, [], [], false, by simp, by simp, fun X hX => ?_, fun X hX => ?_, fun X => ?_⟩
      · have := aparse_any s (by omega) X hX.gl
        unfold PrPost at this
        rw [hr] at this
        exact this.mono fun e w' ⟨q1, q2⟩ => ⟨⟨_, q1, ⟨⟨rfl, .inl ⟨rfl, rfl⟩⟩, q2.size⟩, by simp⟩, q2⟩
      · have := labels_any s (by omega) X hX.gl
        unfold LbPost at this
        rw [hr] at this
        exact this.mono fun e w' ⟨q1, q2⟩ => ⟨⟨_, q1, ⟨rfl, .inl ⟨rfl, rfl⟩⟩⟩, q2⟩
      · have := rread_any s hs X
        unfold RePost at this
        rw [hr] at this
        exact this.mono fun e w' ⟨q1, q2⟩ => ⟨⟨_, _, q1, ⟨⟨rfl, .inl ⟨rfl, rfl⟩⟩, q2.size⟩, ⟨rfl, .inl ⟨rfl, rfl⟩⟩⟩, q2⟩
    | some q =>
      obtain ⟨C, M⟩ := q
      have hlen := readT_len hr
      refine ⟨n, C, M, true, by omega, by omega, fun X hX => ?_, fun X hX => ?_, fun X => ?_⟩
      · have := aparse_any s (by omega) X hX.gl
        unfold PrPost at this
        rw [hr] at this
        exact this.mono fun e w' ⟨⟨v, q1, q3, q4⟩, q2⟩ => ⟨⟨v, q1, q3, q4⟩, q2⟩
      · have := labels_any s (by omega) X hX.gl
        unfold LbPost at this
        rw [hr] at this
        exact this.mono fun e w' ⟨⟨v, q1, q3⟩, q2⟩ => ⟨⟨v, q1, q3⟩, q2⟩
      · have := rread_any s hs X
        unfold RePost at this
        rw [hr] at this
        exact this.mono fun e w' ⟨⟨v, u, q1, q3, q4, q5⟩, q2⟩ => ⟨⟨v, u, q1, q3, q4⟩, q2⟩

set_option maxRecDepth 100000 in
set_option maxHeartbeats 20000000 in
theorem parse_law (s : List UInt8) (w : World) (hw : Gp w) : Calls Tryz.prog 3 #[.string ⟨s.toArray⟩] w fun e w' => e = .returned (.bool true) ∧ Keeps (fun _ => False) w w' := by
  have hsz := size_of s
  by_cases hl : 20000 < s.length
  · have hli : (20000 : Int) < s.length := by omega
    have KN0 := known_any w hw
    go_enter Tryz.func3, Tryz.ntmps3
    go_wp2_with fail
    refine KN0.mono ?_
    rintro e X ⟨rfl, kX⟩
    go_wp2_with fail
    go_ret
    exact ⟨rfl, kX⟩
  · have hli : ¬ (20000 : Int) < s.length := by omega
    obtain ⟨n, C, M, b, TR⟩ := tri_any s (by omega)
    have HT : Hid (Tri s n C M b) := TR
    have hC := TR.clen
    have hM := TR.mlen
    have HGP : Hid (∀ X, Keeps (fun _ => False) w X → Gp X) := fun X k => hw.keeps k
    have P1 := TR.parse w hw
    clear TR hw hl
    cases b
    · simp only [Bool.false_eq_true, if_false] at P1
      go_enter Tryz.func3, Tryz.ntmps3
      go_wp2_with fail
      refine P1.mono ?_
      rintro e w1 ⟨⟨vp, rfl, hp, hwf⟩, k1⟩
      obtain ⟨pb, pc, rfl⟩ := hp.form
      have HWF : Hid (∀ i ∈ C, i.wf) := hwf
      have HP1 : Hid (Irs w1 w.heap.size (.slice pb C.length pc) C) := hp
      have P2 := HT.out.labs w1 (HGP.out w1 k1)
      simp only [Bool.false_eq_true, if_false] at P2
      clear P1 hwf hp
      go_wp2_with fail
      refine P2.mono ?_
      rintro e w2 ⟨⟨vl, rfl, hl2⟩, k2⟩
      obtain ⟨lb, lc, rfl, _⟩ := (labN_of_own hl2).form
      have HL2 : Hid (w2.ownsRow w1.heap.size 39 2 (.slice lb M.length lc) M.length (labV M)) := hl2
      have P3 := HT.out.parse w2 (HGP.out w2 (k1.trans k2))
      simp only [Bool.false_eq_true, if_false] at P3
      clear P2 hl2
      go_wp2_with fail
      refine P3.mono ?_
      rintro e w3 ⟨⟨vq, rfl, hq3, _⟩, k3⟩
      obtain ⟨qb, qc, rfl⟩ := hq3.form
      have HQ3 : Hid (Irs w3 w2.heap.size (.slice qb C.length qc) C) := hq3
      have P4 := HT.out.labs w3 (HGP.out w3 ((k1.trans k2).trans k3))
      simp only [Bool.false_eq_true, if_false] at P4
      clear P3 hq3
      go_wp2_with fail
      refine P4.mono ?_
      rintro e w4 ⟨⟨vk, rfl, hk4⟩, k4⟩
      obtain ⟨kb, kc, rfl, _⟩ := (labN_of_own hk4).form
      have HK4 : Hid (w4.ownsRow w3.heap.size 39 2 (.slice kb M.length kc) M.length (labV M)) := hk4
      have P5 := HT.out.read w4
      clear P4 hk4 HT
      go_wp2_with fail
      refine P5.mono ?_
      rintro e w5 ⟨⟨vw, vx, rfl, hw5, hx5⟩, k5⟩
      obtain ⟨wb, wc, rfl⟩ := hw5.form
      obtain ⟨xb, xc, rfl, _⟩ := (labN_of_own hx5).form
      have HW5 : Hid (Irs w5 w4.heap.size (.slice wb C.length wc) C) := hw5
      have HX5 : Hid (w5.ownsRow w4.heap.size 39 2 (.slice xb M.length xc) M.length (labV M)) := hx5
      have HKK : Hid (_ ∧ _ ∧ _ ∧ _ ∧ _) := ⟨k1, k2, k3, k4, k5⟩
      have hb40 : C.length * 40 ≤ 140737488355328 := by omega
      have SA := rsame_any (.slice pb C.length pc) (.slice wb C.length wc) C (by omega) w5 ((HP1.out.keeps ((((k2.trans k3).trans k4).trans k5)) (fun _ _ f => f)).insAt HWF.out hb40) (hw5.insAt HWF.out hb40)
      clear P5 hw5 hx5 k1 k2 k3 k4 k5
      go_wp2_with fail
      refine SA.mono ?_
      rintro e w6 ⟨rfl, k6⟩
      clear SA
      have SL := rsamelabs_any (.slice lb M.length lc) (.slice xb M.length xc) M (by omega) w6 ((labN_of_own HL2.out).keeps ((((HKK.out.2.2.1).trans HKK.out.2.2.2.1).trans HKK.out.2.2.2.2).trans k6)) ((labN_of_own HX5.out).keeps k6)
      have HK6 : Hid (_) := k6
      clear k6
      go_wp2_with fail
      refine SL.mono ?_
      rintro e w7 ⟨rfl, k7⟩
      clear SL
      have HK7 : Hid (Keeps (fun _ => False) w5 w7) := HK6.out.trans k7
      have kA : Hid (Keeps (fun _ => False) w4 w7) := HKK.out.2.2.2.2.trans HK7.out
      have kB : Hid (Keeps (fun _ => False) w3 w7) := HKK.out.2.2.2.1.trans kA.out
      have kC : Hid (Keeps (fun _ => False) w2 w7) := HKK.out.2.2.1.trans kB.out
      have kD : Hid (Keeps (fun _ => False) w1 w7) := HKK.out.2.1.trans kC.out
      have kE : Hid (Keeps (fun _ => False) w w7) := HKK.out.1.trans kD.out
      have ST : Hid (Keeps (fun q => Value.ownBlock (.slice pb C.length pc) = some q) w7 w7 ∧ There w7 (.slice pb C.length pc) C.length 37 5) := ⟨Keeps.refl _ _, there_own (HP1.out.keeps kD.out (fun _ _ f => f)).own⟩
      have SZ1 : Hid (w.heap.size ≤ w1.heap.size ∧ w1.heap.size ≤ w2.heap.size ∧ w2.heap.size ≤ w3.heap.size ∧ w3.heap.size ≤ w4.heap.size) := ⟨HKK.out.1.size, HKK.out.2.1.size, HKK.out.2.2.1.size, HKK.out.2.2.2.1.size⟩
      clear HK6 k7 HKK
      go_wp2_with fail
      go_loopw [20] (fun u wr => ∃ i : Nat, u = .int .i64 (i : Int) ∧ i ≤ C.length ∧ Hid (Keeps (fun q => Value.ownBlock (.slice pb C.length pc) = some q) w7 wr ∧ There wr (.slice pb C.length pc) C.length 37 5)) (fun u _ => C.length - (intOf u).toNat)
      case atStart => exact ⟨0, rfl, Nat.zero_le _, ST⟩
      case round =>
        obtain ⟨i, rfl, hi, hh⟩ := hrel
        clear ST
        by_cases hlt : i < C.length
        · have hii : (i : Int) < C.length := by omega
          obtain ⟨e1, e3⟩ := hh.out
          rcases e3 with h0 | ⟨g, cap, cur, hv, hcap, hcur, hsz2⟩
          · omega
          · simp only [Value.slice.injEq] at hv
            obtain ⟨rfl, -, rfl⟩ := hv
            have hic : (i : Int) < pc := by omega
            have ht := there_block hcur (i * 5) 5 (by omega)
            obtain ⟨cur', hc1, hc2⟩ := block_setCells [.int .i64 77, .int .i64 0, .int .i64 0, .int .i64 0, .int .u64 0] (i * 5) _ _ hcur
            have E2 := Keeps.setCells (S := fun q => Value.ownBlock (.slice (some ⟨g, 0, none⟩) C.length pc) = some q) (a := w7) (b := g) (.inr rfl) [.int .i64 77, .int .i64 0, .int .i64 0, .int .i64 0, .int .u64 0] (i * 5) wr e1
            have hr := run_storeAt_mid (P := Tryz.prog) wr g (i * 5) 37 #[.int .i64 77, .int .i64 0, .int .i64 0, .int .i64 0, .int .u64 0] ht size_ins (by simp [Value.oneCell'])
            obtain ⟨W', hW'⟩ : ∃ W', W' = wr.setCells g (i * 5) [.int .i64 77, .int .i64 0, .int .i64 0, .int .i64 0, .int .u64 0] := ⟨_, rfl⟩
            rw [← hW'] at hc1 E2
            change _ = Result.ok () (wr.setCells g (i * 5) [.int .i64 77, .int .i64 0, .int .i64 0, .int .i64 0, .int .u64 0]) at hr
            rw [← hW'] at hr
            have HR' : Hid (_ = _) := hr
            have fin : Hid (Keeps (fun q => Value.ownBlock (.slice (some ⟨g, 0, none⟩) C.length pc) = some q) w7 W' ∧ There W' (.slice (some ⟨g, 0, none⟩) C.length pc) C.length 37 5) := ⟨E2, .inr ⟨g, pc, cur', rfl, hcap, hc1, by omega⟩⟩
            clear hh e1 hr hW' ht hcur E2 hc1 hc2 hsz2 HP1 HQ3 HW5 HL2 HK4 HX5 HK7 kA kB kC kD kE SZ1
            go_wp2_with (refine wpList_store_run rfl 37 _ _ rfl rfl rfl HR'.out ?_)
            go_roundw
            · exact ⟨i + 1, by simp, by omega, fin⟩
            · simp [intOf]; omega
        · have hii : ¬ (i : Int) < C.length := by omega
          have hpo : ∀ q, Value.ownBlock (.slice pb C.length pc) = some q → q < w1.heap.size ∧ w.heap.size ≤ q := fun q e => own_block HP1.out.own e
          have hlo : ∀ q, Value.ownBlock (.slice lb M.length lc) = some q → q < w2.heap.size ∧ w1.heap.size ≤ q := fun q e => own_block HL2.out e
          have HPO : Hid (∀ q, Value.ownBlock (.slice pb C.length pc) = some q → q < w1.heap.size ∧ w.heap.size ≤ q) := hpo
          have HLO : Hid (∀ q, Value.ownBlock (.slice lb M.length lc) = some q → q < w2.heap.size ∧ w1.heap.size ≤ q) := hlo
          have ST2 : Hid (Keeps (fun q => Value.ownBlock (.slice pb C.length pc) = some q ∨ Value.ownBlock (.slice lb M.length lc) = some q) w7 wr ∧ There wr (.slice lb M.length lc) M.length 39 2) :=
            ⟨hh.out.1.mono (fun _ _ e => .inl e), there_own (own_keeps (own_keeps HL2.out kC.out (fun _ _ f => f)) hh.out.1 (fun g e f => by have := (hlo g e).2; have := (hpo g f).1; omega))⟩
          clear hh hpo hlo
          go_wp2_with fail
          go_loopw [21] (fun u wr2 => ∃ i : Nat, u = .int .i64 (i : Int) ∧ i ≤ M.length ∧ Hid (Keeps (fun q => Value.ownBlock (.slice pb C.length pc) = some q ∨ Value.ownBlock (.slice lb M.length lc) = some q) w7 wr2 ∧ There wr2 (.slice lb M.length lc) M.length 39 2)) (fun u _ => M.length - (intOf u).toNat)
          case atStart => exact ⟨0, rfl, Nat.zero_le _, ST2⟩
          case round =>
            obtain ⟨j, rfl, hj, hh⟩ := hrel
            clear ST2
            by_cases hlj : j < M.length
            · have hji : (j : Int) < M.length := by omega
              obtain ⟨e1, e3⟩ := hh.out
              rcases e3 with h0 | ⟨g, cap, cur, hv, hcap, hcur, hsz2⟩
              · omega
              · simp only [Value.slice.injEq] at hv
                obtain ⟨rfl, -, rfl⟩ := hv
                have hjc : (j : Int) < lc := by omega
                have ht := there_block hcur (j * 2) 2 (by omega)
                obtain ⟨cur', hc1, hc2⟩ := block_setCells [.string ⟨#[103, 111, 110, 101]⟩, .int .i64 0] (j * 2) _ _ hcur
                have E2 := Keeps.setCells (S := fun q => Value.ownBlock (.slice pb C.length pc) = some q ∨ Value.ownBlock (.slice (some ⟨g, 0, none⟩) M.length lc) = some q) (a := w7) (b := g) (.inr (.inr rfl)) [.string ⟨#[103, 111, 110, 101]⟩, .int .i64 0] (j * 2) wr e1
                have hr := run_storeAt_mid (P := Tryz.prog) wr g (j * 2) 39 #[.string ⟨#[103, 111, 110, 101]⟩, .int .i64 0] ht size_lab (by simp [Value.oneCell'])
                obtain ⟨W', hW'⟩ : ∃ W', W' = wr.setCells g (j * 2) [.string ⟨#[103, 111, 110, 101]⟩, .int .i64 0] := ⟨_, rfl⟩
                rw [← hW'] at hc1 E2
                change _ = Result.ok () (wr.setCells g (j * 2) [.string ⟨#[103, 111, 110, 101]⟩, .int .i64 0]) at hr
                rw [← hW'] at hr
                have HR' : Hid (_ = _) := hr
                have fin : Hid (Keeps (fun q => Value.ownBlock (.slice pb C.length pc) = some q ∨ Value.ownBlock (.slice (some ⟨g, 0, none⟩) M.length lc) = some q) w7 W' ∧ There W' (.slice (some ⟨g, 0, none⟩) M.length lc) M.length 39 2) := ⟨E2, .inr ⟨g, lc, cur', rfl, hcap, hc1, by omega⟩⟩
                clear hh e1 hr hW' ht hcur E2 hc1 hc2 hsz2 HP1 HQ3 HW5 HL2 HK4 HX5 HK7 kA kB kC kD kE SZ1 HPO HLO
                go_wp2_with (refine wpList_store_run rfl 39 _ _ rfl rfl rfl HR'.out ?_)
                go_roundw
                · exact ⟨j + 1, by simp, by omega, fin⟩
                · simp [intOf]; omega
            · have hji : ¬ (j : Int) < M.length := by omega
              obtain ⟨e1, -⟩ := hh.out
              obtain ⟨z0, z1, z2, z3⟩ := SZ1.out
              have hfar : ∀ q, w2.heap.size ≤ q → ¬ (Value.ownBlock (.slice pb C.length pc) = some q ∨ Value.ownBlock (.slice lb M.length lc) = some q) := fun q hq f => by
                rcases f with f | f
                · have := (HPO.out q f).1; omega
                · have := (HLO.out q f).1; omega
              have kw := keeps_up kE.out e1 (fun q f => by
                rcases f with f | f
                · exact (HPO.out q f).2
                · have := (HLO.out q f).2; omega)
              have IQ := ((HQ3.out.keeps kB.out (fun _ _ f => f)).keeps e1 (fun g e => hfar g (own_block HQ3.out.own e).2)).insAt HWF.out hb40
              have IW := ((HW5.out.keeps HK7.out (fun _ _ f => f)).keeps e1 (fun g e => hfar g (by have := (own_block HW5.out.own e).2; omega))).insAt HWF.out hb40
              have LK := labN_of_own (own_keeps (own_keeps HK4.out kA.out (fun _ _ f => f)) e1 (fun g e => hfar g (by have := (own_block HK4.out e).2; omega)))
              have LX := labN_of_own (own_keeps (own_keeps HX5.out HK7.out (fun _ _ f => f)) e1 (fun g e => hfar g (by have := (own_block HX5.out e).2; omega)))
              have SA := rsame_any _ _ C (by omega) wr IQ IW
              have HSL : Hid (∀ X, Keeps (fun _ => False) wr X → Calls Tryz.prog 14 #[.slice kb M.length kc, .slice xb M.length xc] X fun e w' => e = .returned (.bool true) ∧ Keeps (fun _ => False) X w') := fun X kX => rsamelabs_any _ _ M (by omega) X (LK.keeps kX) (LX.keeps kX)
              have HKN : Hid (∀ X, Keeps (fun _ => False) wr X → Calls Tryz.prog 9 #[] X fun e w' => e = .returned (.bool true) ∧ Keeps (fun _ => False) X w') := fun X kX => known_any X (HGP.out X (kw.trans kX))
              have HKW : Hid (Keeps (fun _ => False) w wr) := kw
              clear hh e1 hfar kw IQ IW LK LX HPO HLO HP1 HQ3 HW5 HL2 HK4 HX5 HK7 kA kB kC kD kE SZ1 z0 z1 z2 z3
              go_wp2_with fail
              refine SA.mono ?_
              rintro e w8 ⟨rfl, k8⟩
              have SL := HSL.out w8 k8
              clear SA HSL
              go_wp2_with fail
              refine SL.mono ?_
              rintro e w9 ⟨rfl, k9⟩
              have KN := HKN.out w9 (k8.trans k9)
              have kk9 := (HKW.out.trans k8).trans k9
              clear SL HKN k8 k9 HKW
              go_wp2_with fail
              refine KN.mono ?_
              rintro e w10 ⟨rfl, k10⟩
              have kk := kk9.trans k10
              clear KN
              go_wp2_with fail
              go_ret
              exact ⟨rfl, kk⟩
    · simp only [if_true] at P1
      go_enter Tryz.func3, Tryz.ntmps3
      go_wp2_with fail
      refine P1.mono ?_
      rintro e w1 ⟨⟨vp, rfl, hp, hwf⟩, k1⟩
      obtain ⟨pb, pc, rfl⟩ := hp.form
      have HWF : Hid (∀ i ∈ C, i.wf) := hwf
      have HP1 : Hid (Irs w1 w.heap.size (.slice pb C.length pc) C) := hp
      have P2 := HT.out.labs w1 (HGP.out w1 k1)
      simp only [if_true] at P2
      clear P1 hwf hp
      go_wp2_with fail
      refine P2.mono ?_
      rintro e w2 ⟨⟨vl, rfl, hl2⟩, k2⟩
      obtain ⟨lb, lc, rfl, _⟩ := (labN_of_own hl2).form
      have HL2 : Hid (w2.ownsRow w1.heap.size 39 2 (.slice lb M.length lc) M.length (labV M)) := hl2
      have P3 := HT.out.parse w2 (HGP.out w2 (k1.trans k2))
      simp only [if_true] at P3
      clear P2 hl2
      go_wp2_with fail
      refine P3.mono ?_
      rintro e w3 ⟨⟨vq, rfl, hq3, _⟩, k3⟩
      obtain ⟨qb, qc, rfl⟩ := hq3.form
      have HQ3 : Hid (Irs w3 w2.heap.size (.slice qb C.length qc) C) := hq3
      have P4 := HT.out.labs w3 (HGP.out w3 ((k1.trans k2).trans k3))
      simp only [if_true] at P4
      clear P3 hq3
      go_wp2_with fail
      refine P4.mono ?_
      rintro e w4 ⟨⟨vk, rfl, hk4⟩, k4⟩
      obtain ⟨kb, kc, rfl, _⟩ := (labN_of_own hk4).form
      have HK4 : Hid (w4.ownsRow w3.heap.size 39 2 (.slice kb M.length kc) M.length (labV M)) := hk4
      have P5 := HT.out.read w4
      clear P4 hk4 HT
      go_wp2_with fail
      refine P5.mono ?_
      rintro e w5 ⟨⟨vw, vx, rfl, hw5, hx5⟩, k5⟩
      obtain ⟨wb, wc, rfl⟩ := hw5.form
      obtain ⟨xb, xc, rfl, _⟩ := (labN_of_own hx5).form
      have HW5 : Hid (Irs w5 w4.heap.size (.slice wb C.length wc) C) := hw5
      have HX5 : Hid (w5.ownsRow w4.heap.size 39 2 (.slice xb M.length xc) M.length (labV M)) := hx5
      have HKK : Hid (_ ∧ _ ∧ _ ∧ _ ∧ _) := ⟨k1, k2, k3, k4, k5⟩
      have hb40 : C.length * 40 ≤ 140737488355328 := by omega
      have SA := rsame_any (.slice pb C.length pc) (.slice wb C.length wc) C (by omega) w5 ((HP1.out.keeps ((((k2.trans k3).trans k4).trans k5)) (fun _ _ f => f)).insAt HWF.out hb40) (hw5.insAt HWF.out hb40)
      clear P5 hw5 hx5 k1 k2 k3 k4 k5
      go_wp2_with fail
      refine SA.mono ?_
      rintro e w6 ⟨rfl, k6⟩
      clear SA
      have SL := rsamelabs_any (.slice lb M.length lc) (.slice xb M.length xc) M (by omega) w6 ((labN_of_own HL2.out).keeps ((((HKK.out.2.2.1).trans HKK.out.2.2.2.1).trans HKK.out.2.2.2.2).trans k6)) ((labN_of_own HX5.out).keeps k6)
      have HK6 : Hid (_) := k6
      clear k6
      go_wp2_with fail
      refine SL.mono ?_
      rintro e w7 ⟨rfl, k7⟩
      clear SL
      have HK7 : Hid (Keeps (fun _ => False) w5 w7) := HK6.out.trans k7
      have kA : Hid (Keeps (fun _ => False) w4 w7) := HKK.out.2.2.2.2.trans HK7.out
      have kB : Hid (Keeps (fun _ => False) w3 w7) := HKK.out.2.2.2.1.trans kA.out
      have kC : Hid (Keeps (fun _ => False) w2 w7) := HKK.out.2.2.1.trans kB.out
      have kD : Hid (Keeps (fun _ => False) w1 w7) := HKK.out.2.1.trans kC.out
      have kE : Hid (Keeps (fun _ => False) w w7) := HKK.out.1.trans kD.out
      have ST : Hid (Keeps (fun q => Value.ownBlock (.slice pb C.length pc) = some q) w7 w7 ∧ There w7 (.slice pb C.length pc) C.length 37 5) := ⟨Keeps.refl _ _, there_own (HP1.out.keeps kD.out (fun _ _ f => f)).own⟩
      have SZ1 : Hid (w.heap.size ≤ w1.heap.size ∧ w1.heap.size ≤ w2.heap.size ∧ w2.heap.size ≤ w3.heap.size ∧ w3.heap.size ≤ w4.heap.size) := ⟨HKK.out.1.size, HKK.out.2.1.size, HKK.out.2.2.1.size, HKK.out.2.2.2.1.size⟩
      clear HK6 k7 HKK
      go_wp2_with fail
      go_loopw [20] (fun u wr => ∃ i : Nat, u = .int .i64 (i : Int) ∧ i ≤ C.length ∧ Hid (Keeps (fun q => Value.ownBlock (.slice pb C.length pc) = some q) w7 wr ∧ There wr (.slice pb C.length pc) C.length 37 5)) (fun u _ => C.length - (intOf u).toNat)
      case atStart => exact ⟨0, rfl, Nat.zero_le _, ST⟩
      case round =>
        obtain ⟨i, rfl, hi, hh⟩ := hrel
        clear ST
        by_cases hlt : i < C.length
        · have hii : (i : Int) < C.length := by omega
          obtain ⟨e1, e3⟩ := hh.out
          rcases e3 with h0 | ⟨g, cap, cur, hv, hcap, hcur, hsz2⟩
          · omega
          · simp only [Value.slice.injEq] at hv
            obtain ⟨rfl, -, rfl⟩ := hv
            have hic : (i : Int) < pc := by omega
            have ht := there_block hcur (i * 5) 5 (by omega)
            obtain ⟨cur', hc1, hc2⟩ := block_setCells [.int .i64 77, .int .i64 0, .int .i64 0, .int .i64 0, .int .u64 0] (i * 5) _ _ hcur
            have E2 := Keeps.setCells (S := fun q => Value.ownBlock (.slice (some ⟨g, 0, none⟩) C.length pc) = some q) (a := w7) (b := g) (.inr rfl) [.int .i64 77, .int .i64 0, .int .i64 0, .int .i64 0, .int .u64 0] (i * 5) wr e1
            have hr := run_storeAt_mid (P := Tryz.prog) wr g (i * 5) 37 #[.int .i64 77, .int .i64 0, .int .i64 0, .int .i64 0, .int .u64 0] ht size_ins (by simp [Value.oneCell'])
            obtain ⟨W', hW'⟩ : ∃ W', W' = wr.setCells g (i * 5) [.int .i64 77, .int .i64 0, .int .i64 0, .int .i64 0, .int .u64 0] := ⟨_, rfl⟩
            rw [← hW'] at hc1 E2
            change _ = Result.ok () (wr.setCells g (i * 5) [.int .i64 77, .int .i64 0, .int .i64 0, .int .i64 0, .int .u64 0]) at hr
            rw [← hW'] at hr
            have HR' : Hid (_ = _) := hr
            have fin : Hid (Keeps (fun q => Value.ownBlock (.slice (some ⟨g, 0, none⟩) C.length pc) = some q) w7 W' ∧ There W' (.slice (some ⟨g, 0, none⟩) C.length pc) C.length 37 5) := ⟨E2, .inr ⟨g, pc, cur', rfl, hcap, hc1, by omega⟩⟩
            clear hh e1 hr hW' ht hcur E2 hc1 hc2 hsz2 HP1 HQ3 HW5 HL2 HK4 HX5 HK7 kA kB kC kD kE SZ1
            go_wp2_with (refine wpList_store_run rfl 37 _ _ rfl rfl rfl HR'.out ?_)
            go_roundw
            · exact ⟨i + 1, by simp, by omega, fin⟩
            · simp [intOf]; omega
        · have hii : ¬ (i : Int) < C.length := by omega
          have hpo : ∀ q, Value.ownBlock (.slice pb C.length pc) = some q → q < w1.heap.size ∧ w.heap.size ≤ q := fun q e => own_block HP1.out.own e
          have hlo : ∀ q, Value.ownBlock (.slice lb M.length lc) = some q → q < w2.heap.size ∧ w1.heap.size ≤ q := fun q e => own_block HL2.out e
          have HPO : Hid (∀ q, Value.ownBlock (.slice pb C.length pc) = some q → q < w1.heap.size ∧ w.heap.size ≤ q) := hpo
          have HLO : Hid (∀ q, Value.ownBlock (.slice lb M.length lc) = some q → q < w2.heap.size ∧ w1.heap.size ≤ q) := hlo
          have ST2 : Hid (Keeps (fun q => Value.ownBlock (.slice pb C.length pc) = some q ∨ Value.ownBlock (.slice lb M.length lc) = some q) w7 wr ∧ There wr (.slice lb M.length lc) M.length 39 2) :=
            ⟨hh.out.1.mono (fun _ _ e => .inl e), there_own (own_keeps (own_keeps HL2.out kC.out (fun _ _ f => f)) hh.out.1 (fun g e f => by have := (hlo g e).2; have := (hpo g f).1; omega))⟩
          clear hh hpo hlo
          go_wp2_with fail
          go_loopw [21] (fun u wr2 => ∃ i : Nat, u = .int .i64 (i : Int) ∧ i ≤ M.length ∧ Hid (Keeps (fun q => Value.ownBlock (.slice pb C.length pc) = some q ∨ Value.ownBlock (.slice lb M.length lc) = some q) w7 wr2 ∧ There wr2 (.slice lb M.length lc) M.length 39 2)) (fun u _ => M.length - (intOf u).toNat)
          case atStart => exact ⟨0, rfl, Nat.zero_le _, ST2⟩
          case round =>
            obtain ⟨j, rfl, hj, hh⟩ := hrel
            clear ST2
            by_cases hlj : j < M.length
            · have hji : (j : Int) < M.length := by omega
              obtain ⟨e1, e3⟩ := hh.out
              rcases e3 with h0 | ⟨g, cap, cur, hv, hcap, hcur, hsz2⟩
              · omega
              · simp only [Value.slice.injEq] at hv
                obtain ⟨rfl, -, rfl⟩ := hv
                have hjc : (j : Int) < lc := by omega
                have ht := there_block hcur (j * 2) 2 (by omega)
                obtain ⟨cur', hc1, hc2⟩ := block_setCells [.string ⟨#[103, 111, 110, 101]⟩, .int .i64 0] (j * 2) _ _ hcur
                have E2 := Keeps.setCells (S := fun q => Value.ownBlock (.slice pb C.length pc) = some q ∨ Value.ownBlock (.slice (some ⟨g, 0, none⟩) M.length lc) = some q) (a := w7) (b := g) (.inr (.inr rfl)) [.string ⟨#[103, 111, 110, 101]⟩, .int .i64 0] (j * 2) wr e1
                have hr := run_storeAt_mid (P := Tryz.prog) wr g (j * 2) 39 #[.string ⟨#[103, 111, 110, 101]⟩, .int .i64 0] ht size_lab (by simp [Value.oneCell'])
                obtain ⟨W', hW'⟩ : ∃ W', W' = wr.setCells g (j * 2) [.string ⟨#[103, 111, 110, 101]⟩, .int .i64 0] := ⟨_, rfl⟩
                rw [← hW'] at hc1 E2
                change _ = Result.ok () (wr.setCells g (j * 2) [.string ⟨#[103, 111, 110, 101]⟩, .int .i64 0]) at hr
                rw [← hW'] at hr
                have HR' : Hid (_ = _) := hr
                have fin : Hid (Keeps (fun q => Value.ownBlock (.slice pb C.length pc) = some q ∨ Value.ownBlock (.slice (some ⟨g, 0, none⟩) M.length lc) = some q) w7 W' ∧ There W' (.slice (some ⟨g, 0, none⟩) M.length lc) M.length 39 2) := ⟨E2, .inr ⟨g, lc, cur', rfl, hcap, hc1, by omega⟩⟩
                clear hh e1 hr hW' ht hcur E2 hc1 hc2 hsz2 HP1 HQ3 HW5 HL2 HK4 HX5 HK7 kA kB kC kD kE SZ1 HPO HLO
                go_wp2_with (refine wpList_store_run rfl 39 _ _ rfl rfl rfl HR'.out ?_)
                go_roundw
                · exact ⟨j + 1, by simp, by omega, fin⟩
                · simp [intOf]; omega
            · have hji : ¬ (j : Int) < M.length := by omega
              obtain ⟨e1, -⟩ := hh.out
              obtain ⟨z0, z1, z2, z3⟩ := SZ1.out
              have hfar : ∀ q, w2.heap.size ≤ q → ¬ (Value.ownBlock (.slice pb C.length pc) = some q ∨ Value.ownBlock (.slice lb M.length lc) = some q) := fun q hq f => by
                rcases f with f | f
                · have := (HPO.out q f).1; omega
                · have := (HLO.out q f).1; omega
              have kw := keeps_up kE.out e1 (fun q f => by
                rcases f with f | f
                · exact (HPO.out q f).2
                · have := (HLO.out q f).2; omega)
              have IQ := ((HQ3.out.keeps kB.out (fun _ _ f => f)).keeps e1 (fun g e => hfar g (own_block HQ3.out.own e).2)).insAt HWF.out hb40
              have IW := ((HW5.out.keeps HK7.out (fun _ _ f => f)).keeps e1 (fun g e => hfar g (by have := (own_block HW5.out.own e).2; omega))).insAt HWF.out hb40
              have LK := labN_of_own (own_keeps (own_keeps HK4.out kA.out (fun _ _ f => f)) e1 (fun g e => hfar g (by have := (own_block HK4.out e).2; omega)))
              have LX := labN_of_own (own_keeps (own_keeps HX5.out HK7.out (fun _ _ f => f)) e1 (fun g e => hfar g (by have := (own_block HX5.out e).2; omega)))
              have SA := rsame_any _ _ C (by omega) wr IQ IW
              have HSL : Hid (∀ X, Keeps (fun _ => False) wr X → Calls Tryz.prog 14 #[.slice kb M.length kc, .slice xb M.length xc] X fun e w' => e = .returned (.bool true) ∧ Keeps (fun _ => False) X w') := fun X kX => rsamelabs_any _ _ M (by omega) X (LK.keeps kX) (LX.keeps kX)
              have HKN : Hid (∀ X, Keeps (fun _ => False) wr X → Calls Tryz.prog 9 #[] X fun e w' => e = .returned (.bool true) ∧ Keeps (fun _ => False) X w') := fun X kX => known_any X (HGP.out X (kw.trans kX))
              have HKW : Hid (Keeps (fun _ => False) w wr) := kw
              clear hh e1 hfar kw IQ IW LK LX HPO HLO HP1 HQ3 HW5 HL2 HK4 HX5 HK7 kA kB kC kD kE SZ1 z0 z1 z2 z3
              go_wp2_with fail
              refine SA.mono ?_
              rintro e w8 ⟨rfl, k8⟩
              have SL := HSL.out w8 k8
              clear SA HSL
              go_wp2_with fail
              refine SL.mono ?_
              rintro e w9 ⟨rfl, k9⟩
              have KN := HKN.out w9 (k8.trans k9)
              have kk9 := (HKW.out.trans k8).trans k9
              clear SL HKN k8 k9 HKW
              go_wp2_with fail
              refine KN.mono ?_
              rintro e w10 ⟨rfl, k10⟩
              have kk := kk9.trans k10
              clear KN
              go_wp2_with fail
              go_ret
              exact ⟨rfl, kk⟩
end Go.Proofs.YtkkmkfldldglgaaGreatDoor
