
/- The law RankSorts, walked (layer 24). No statement of the seat is proved here. -/
import Derived.Test.YtalopkllldnipaaRtA
namespace Go.Proofs.Ytalopkllldnipaa
open Go.RowKit Bt

/-- What the law keeps: the tx and the heaps' addresses. -/
structure Fs (w : World) (N b g c q6 : Nat) (X : World) (s : Wd) : Prop where
  wd : WdAt X b g c s
  k : Keeps (fun _ => False) w X
  ar : ArAt X q6 18 20
  lo : w.heap.size ≤ b ∧ w.heap.size ≤ g ∧ w.heap.size ≤ q6 ∧ q6 ≠ b ∧ q6 ≠ g
  hi : b < N ∧ g < N ∧ q6 < N
  sz : N ≤ X.heap.size
section
variable {w X X' : World} {N b g c q6 : Nat} {s s' : Wd} {S : Nat → Prop}
theorem Fs.acc (h : Fs w N b g c q6 X s) (k : Keeps (two b g) X X') (hw : WdAt X' b g c s') : Fs w N b g c q6 X' s' := by
  have l := h.lo
  refine ⟨hw, h.k.step k (fun i hi e => ?_), h.ar.keeps k ?_, h.lo, h.hi, Nat.le_trans h.sz k.size⟩
  · rcases e with e | e <;> omega
  · rintro (e | e)
    · exact l.2.2.2.1 e
    · exact l.2.2.2.2 e
theorem Fs.own (h : Fs w N b g c q6 X s) (k : Keeps S X X') (hS : ∀ i, S i → N ≤ i) : Fs w N b g c q6 X' s := by
  have l := h.lo
  have l2 := h.hi
  refine ⟨h.wd.kept k (fun e => by have := hS _ e; omega) (fun e => by have := hS _ e; omega), h.k.step k (fun i hi e => by have := hS _ e; omega), h.ar.keeps k (fun e => by have := hS _ e; omega), h.lo, h.hi, Nat.le_trans h.sz k.size⟩
theorem Fs.new (h : Fs w N b g c q6 X s) (k : Keeps (fun _ => False) X X') : Fs w N b g c q6 X' s := h.own k (fun _ f => f.elim)
theorem Fs.a0 (h : Fs w N b g c q6 X s) : X.cell? ⟨q6, 0, none⟩ = some (.int .u64 18) := h.ar.c0
theorem Fs.a1 (h : Fs w N b g c q6 X s) : X.cell? ⟨q6, 1, none⟩ = some (.int .u64 20) := h.ar.c1
end
/-- What was seen, as it lies. -/
def SeenAt (X : World) (q n : Nat) (f : Nat → Bool) : Prop := ∃ cur, X.heap[q]? = some (.cells cur 4 (0, 0)) ∧ ∀ i, i < n → cur[i]? = some (.bool (f i))
theorem SeenAt.keeps {X X' : World} {q n : Nat} {f : Nat → Bool} {S : Nat → Prop} (h : SeenAt X q n f) (k : Keeps S X X') (hS : ¬ S q) : SeenAt X' q n f := by
  obtain ⟨cur, h1, h2⟩ := h
  exact ⟨cur, (k.block q (lt_of_block h1) hS).trans h1, h2⟩
theorem SeenAt.cell {X : World} {q n : Nat} {f : Nat → Bool} (h : SeenAt X q n f) {i : Nat} (hi : i < n) : X.cell? ⟨q, i, none⟩ = some (.bool (f i)) := by
  obtain ⟨cur, h1, h2⟩ := h
  rw [cell_of_block h1, h2 i hi]
theorem SeenAt.frozen {X : World} {q n : Nat} {f : Nat → Bool} (h : SeenAt X q n f) (i : Nat) : X.frozen? ⟨q, i, none⟩ = false := by
  obtain ⟨cur, h1, h2⟩ := h
  exact frozen_of_block h1 i
theorem SeenAt.set {X : World} {q n : Nat} {f : Nat → Bool} (h : SeenAt X q n f) {j : Nat} : SeenAt (X.setCell ⟨q, j, none⟩ (.bool true)) q n (fun i => if i = j then true else f i) := by
  obtain ⟨cur, h1, h2⟩ := h
  refine ⟨_, block_set h1 j _, fun i hi => ?_⟩
  have hi2 := h2 i hi
  have hsz : i < cur.size := (Array.getElem?_eq_some_iff.1 hi2).1
  rw [Array.getElem?_setIfInBounds]
  by_cases e : j = i
  · subst e
    simp [hsz]
  · have e2 : ¬ i = j := fun z => e z.symm
    rw [if_neg e]
    show cur[i]? = some (.bool (if i = j then true else f i))
    rw [if_neg e2]
    exact hi2
set_option maxHeartbeats 400000 in
theorem math_neginf (W : World) : Calls Try.prog 27 #[.int .i64 (-1)] W fun e w' => e = .returned (.float .f64 18442240474082181120) ∧ w' = W := by
  go_enter Try.func27, Try.ntmps27
  go_wp2_with fail
  go_ret
  exact ret_of rfl
set_option maxHeartbeats 400000 in
theorem signbit (b : Nat) (hb : b < 18446744073709551616) (W : World) : Calls Try.prog 30 #[.float .f64 b] W fun e w' => e = .returned (.bool (decide (9223372036854775808 ≤ b))) ∧ w' = W := by
  go_enter Try.func30, Try.ntmps30
  go_wp2_with fail
  go_ret
  refine ret_of (congrArg Value.bool ?_)
  unfold wrap64
  by_cases c : 9223372036854775808 ≤ b <;> simp [c] <;> omega
theorem info_bool : (Try.prog.info? 4).map (fun i => (i.zero, i.size, i.bytes)) = some (some (.bool false), 1, 1) := by kernel_rfl
theorem run_seen (n : Nat) (hn : n ≤ 60) (w : World) : (Instr.makeSlice 67 (.int .i64 n) (.int .i64 n)).run Try.prog w =
    .ok (.slice (some ⟨w.heap.size, 0, none⟩) n n) (w.alloc (.cells (madeCells #[.bool false] n) 4)) := by
  obtain ⟨i0, hi, hz0, hz1, hz2⟩ := info_parts info_bool
  have h := run_make (P := Try.prog) w 67 4 i0 _ Try.underlying67 hi hz0 .i64 .i64 n n (by omega) (by omega) (by rw [hz2]; omega) (by omega)
  rw [h, hz1, Int.toNat_natCast, Nat.mul_one]
  rfl
theorem seen_made (w : World) (n : Nat) : SeenAt (w.alloc (.cells (madeCells #[.bool false] n) 4)) w.heap.size n (fun _ => false) := by
  refine ⟨_, alloc_block w _, fun i hi => ?_⟩
  simp [madeCells, hi, Nat.mod_one]
set_option maxRecDepth 100000 in
set_option maxHeartbeats 8000000 in
theorem sorts_some (g0 off0 : Nat) (cv : Nat) (xs : List Int) (cut : Int) (hcut : -9223372036854775808 ≤ cut ∧ cut < 9223372036854775808) (hxs : ∀ x ∈ xs, isW x) (w : World) (hl : Lies w (.slice (some ⟨g0, off0, none⟩) xs.length cv) xs) :
    Calls Try.prog 6 #[.slice (some ⟨g0, off0, none⟩) xs.length cv, .int .i64 cut] w fun e w' => e = .returned (.bool true) ∧ Keeps (fun _ => False) w w' := by
  have HL := hid hl
  clear hl
  have HXS := hid hxs
  clear hxs
  by_cases hbig : 60 < xs.length
  · have hb' : (60 : Int) < (xs.length : Int) := by omega
    go_enter Try.func6, Try.ntmps6
    go_wp2_with fail
    refine (known_any _).mono ?_
    rintro e_ w1 ⟨rfl, k1⟩
    go_wp2_with fail
    go_ret
    exact ⟨rfl, k1⟩
  have hb' : (xs.length : Int) ≤ 60 := by omega
  have HN : Hid (xs.length ≤ 60) := hid (by omega)
  clear hbig
  have HLL : Hid (∀ X, Keeps (fun _ => False) w X → Lies X (.slice (some ⟨g0, off0, none⟩) xs.length cv) xs) := hid fun X k => HL.out.keeps k (fun _ _ _ _ f => f)
  go_enter Try.func6, Try.ntmps6
  go_wp2_with fail
  refine (begin_any 400 (by decide) (by decide) _).mono ?_
  rintro e_ w1 ⟨b, g, c, rfl, h1, k1, lb, lg⟩
  have H1 := hid h1
  have K1 := hid k1
  have LB := hid (And.intro lb lg)
  clear h1 k1 lb lg
  go_wp2_with fail
  clear hb'
  obtain ⟨q6, hq6⟩ : ∃ q, w1.heap.size = q := ⟨_, rfl⟩
  rw [hq6]
  have HS0 : Hid (Fs w (q6 + 1) b g c q6 (w1.alloc (.cells #[.int .u64 18, .int .u64 20] 26)) (B3 400) ∧ (B3 400).f < 0 ∧ Hp (B3 400).W 400 18 nil 20 nil [] ∧ ((nil : Bt).ens ++ (nil : Bt).ens).Perm ((List.range 0).map (enB xs))) := by
    have kA := keeps_new w1 (.cells #[.int .u64 18, .int .u64 20] 26)
    have l1 := H1.out.ltb
    have l2 := H1.out.ltg
    have l3 := K1.out.size
    have f0 := (beg_of (m := 400) (by decide) (by decide)).2.2.2.2
    refine hid ⟨⟨H1.out.kept kA (fun f => f) (fun f => f), K1.out.trans kA, by rw [← hq6]; exact alloc_block w1 _, by have := LB.out; omega, by omega, by simp; omega⟩, by rw [f0]; decide, beg_hp (by decide) (by decide), .refl _⟩
  clear H1 K1 LB hq6
  go_loopw [8] (fun i wr => ∃ k : Nat, k ≤ xs.length ∧ i = .int .i64 k ∧ ∃ s A B bk, Hid (Fs w (q6 + 1) b g c q6 wr s ∧ s.f < 0 ∧ Hp s.W 400 18 A 20 B bk ∧ (A.ens ++ B.ens).Perm ((List.range k).map (enB xs)))) (fun i _ => xs.length - (intOf i).toNat)
  case atStart => exact ⟨0, by omega, rfl, _, _, _, _, HS0⟩
  case round =>
    obtain ⟨k, hk, rfl, s, A, B, bk, hS⟩ := hrel
    clear HS0
    by_cases hkl : k < xs.length
    · skip
      have hkl' : (k : Int) < (xs.length : Int) := by omega
      have hwk1 : IntKind.i64.wrap ((k : Int) + 1) = ((k + 1 : Nat) : Int) := by rw [IntKind.wrap_i64]; have := HN.out; omega
      have hwk : IntKind.u64.wrap (k : Int) = (k : Int) := by rw [IntKind.wrap_u64]; have := HN.out; omega
      obtain ⟨_, _, qv, hc⟩ := HLL.out wr hS.out.1.k
      injection qv with qv q2_ q3_
      clear q2_ q3_
      obtain ⟨g1, off1, eA, cA⟩ := hc k hkl
      rw [← qv] at eA
      cases eA
      clear qv hc
      have a0 := hS.out.1.a0
      have a1 := hS.out.1.a1
      have HKW : Hid (isW (k : Int)) := by have := HN.out; exact hid ⟨by omega, by omega⟩
      have hbw := oat_isW HXS.out k
      have HBN : Hid ((oat xs k).toNat < 18446744073709551616) := by have := hbw.1; have := hbw.2; exact hid (by omega)
      have HSP : Hid (A.sz + B.sz = k) := by
        have z := hS.out.2.2.2.length_eq
        rw [List.length_append, ens_sz, ens_sz, List.length_map, List.length_range] at z
        exact hid z
      have hk0 : reK (ofR (oat xs k).toNat) = true := reK_ofR HBN.out
      have hk1 : isW (ofR (oat xs k).toNat) := ofR_isW HBN.out
      by_cases hcut2 : cut ≤ (k : Int)
      · have hsp : Space 400 (B.ads ++ A.ads) bk := .inr (by rw [List.length_append, ads_sz, ads_sz]; have := HSP.out; have := HN.out; omega)
        obtain ⟨s1, M, bk1, e1, hp1, pe, ct1⟩ := push_at hS.out.2.2.1.swap hsp hS.out.2.1 rfl (k := ofR (oat xs k).toNat) (x := (k : Int)) hk0 hk1 HKW.out
        clear hsp hk0 hk1 hbw
        have e1' : Wd.rpush 0 20 (ofR (oat xs k).toNat) (k : Int) s = (((), 0), s1) := e1
        have HE := hid e1'
        have HNW : Hid (s1.f < 0 ∧ Hp s1.W 400 18 A 20 M bk1 ∧ (A.ens ++ M.ens).Perm ((List.range (k + 1)).map (enB xs))) := by
          refine hid ⟨by rw [ct1.f]; exact hS.out.2.1, hp1.swap, ?_⟩
          rw [enB_app]
          have pS := hS.out.2.2.2
          refine ((pe.append_left A.ens).trans ?_).trans (pS.append_right _)
          show (A.ens ++ enB xs k :: B.ens).Perm ((A.ens ++ B.ens) ++ [enB xs k])
          rw [List.append_assoc]
          exact (List.perm_append_singleton _ _).symm.append_left _
        clear e1 e1' hp1 pe ct1
        go_wp2_with fail
        refine (push_any HE ⟨by decide, by decide⟩ ⟨by decide, by decide⟩ HKW.out HBN.out hS.out.1.wd).mono ?_
        rintro e_ w2 ⟨rfl, h2, k2⟩
        have HS2 := hid (hS.out.1.acc k2 h2)
        clear h2 k2 HE cA a0 a1
        go_wp2_with fail
        go_roundw
        case rel => exact ⟨k + 1, by omega, by simp, s1, _, _, bk1, hid ⟨HS2.out, HNW.out⟩⟩
        case measure => simp [intOf]; omega
      · have hcut3 : (k : Int) < cut := by omega
        have hsp : Space 400 (A.ads ++ B.ads) bk := .inr (by rw [List.length_append, ads_sz, ads_sz]; have := HSP.out; have := HN.out; omega)
        obtain ⟨s1, M, bk1, e1, hp1, pe, ct1⟩ := push_at hS.out.2.2.1 hsp hS.out.2.1 rfl (k := ofR (oat xs k).toNat) (x := (k : Int)) hk0 hk1 HKW.out
        clear hsp hk0 hk1 hbw hcut2
        have e1' : Wd.rpush 0 18 (ofR (oat xs k).toNat) (k : Int) s = (((), 0), s1) := e1
        have HE := hid e1'
        have HNW : Hid (s1.f < 0 ∧ Hp s1.W 400 18 M 20 B bk1 ∧ (M.ens ++ B.ens).Perm ((List.range (k + 1)).map (enB xs))) := by
          refine hid ⟨by rw [ct1.f]; exact hS.out.2.1, hp1, ?_⟩
          rw [enB_app]
          have pS := hS.out.2.2.2
          refine ((pe.append_right B.ens).trans ?_).trans (pS.append_right _)
          show (enB xs k :: (A.ens ++ B.ens)).Perm ((A.ens ++ B.ens) ++ [enB xs k])
          exact (List.perm_append_singleton _ _).symm
        clear e1 e1' hp1 pe ct1
        go_wp2_with fail
        refine (push_any HE ⟨by decide, by decide⟩ ⟨by decide, by decide⟩ HKW.out HBN.out hS.out.1.wd).mono ?_
        rintro e_ w2 ⟨rfl, h2, k2⟩
        have HS2 := hid (hS.out.1.acc k2 h2)
        clear h2 k2 HE cA a0 a1
        go_wp2_with fail
        go_roundw
        case rel => exact ⟨k + 1, by omega, by simp, s1, _, _, bk1, hid ⟨HS2.out, HNW.out⟩⟩
        case measure => simp [intOf]; omega
    · obtain rfl : k = xs.length := by omega
      clear hkl hk
      obtain ⟨s1, e1, hp1, ct1⟩ := join_at hS.out.2.2.1 hS.out.2.1 rfl
      have e1' : Wd.rjoin 18 20 s = (((), 0), s1) := e1
      have HE := hid e1'
      have hrk := hS.out.2.2.1.rks
      have HNW : Hid (s1.f < 0 ∧ ∃ M, Hp s1.W 400 18 M 20 nil bk ∧ M.ens.Perm ((List.range xs.length).map (enB xs))) := hid ⟨by rw [ct1.f]; exact hS.out.2.1, _, hp1, (mrg_ens 128 A B (by omega)).trans hS.out.2.2.2⟩
      clear e1 e1' hp1 ct1 hrk
      have a0 := hS.out.1.a0
      have a1 := hS.out.1.a1
      go_wp2_with fail
      refine (joinh_any HE ⟨by decide, by decide⟩ ⟨by decide, by decide⟩ hS.out.1.wd).mono ?_
      rintro e_ w2 ⟨rfl, h2, k2⟩
      have HS2 := hid (hS.out.1.acc k2 h2)
      clear h2 k2 HE a0 a1 hS
      have hmk := run_seen xs.length HN.out
      go_wp2_with fail
      refine (math_neginf _).mono ?_
      rintro e_ w_ ⟨rfl, hw_⟩
      subst w_
      go_wp2_with fail
      obtain ⟨M, HPM⟩ := HNW.out.2
      obtain ⟨gs, hgs⟩ : ∃ q, w2.heap.size = q := ⟨_, rfl⟩
      rw [hgs]
      have HGS : Hid (q6 + 1 ≤ gs) := by have := HS2.out.sz; exact hid (by omega)
      have HT0 : Hid (Fs w (q6 + 1) b g c q6 (w2.alloc (.cells (madeCells #[.bool false] xs.length) 4)) s1 ∧ s1.f < 0 ∧ Hp s1.W 400 18 M 20 nil bk ∧ M.sz + 0 = xs.length ∧ Lf xs M.ens (fun _ => false) 4503599627370495 ∧ SeenAt (w2.alloc (.cells (madeCells #[.bool false] xs.length) 4)) gs xs.length (fun _ => false)) := by
        refine hid ⟨HS2.out.new (keeps_new w2 _), HNW.out.1, HPM.1, ?_, Lf.start HXS.out HPM.2, by rw [← hgs]; exact seen_made w2 _⟩
        have z := HPM.2.length_eq
        rw [ens_sz, List.length_map, List.length_range] at z
        omega
      clear HS2 HNW HPM hgs hmk
      go_loopw [11, 12] (fun la i wr => ∃ k : Nat, k ≤ xs.length ∧ i = .int .i64 k ∧ ∃ lk s A bk f, la = .float .f64 (reB lk) ∧ Hid (Fs w (q6 + 1) b g c q6 wr s ∧ s.f < 0 ∧ Hp s.W 400 18 A 20 nil bk ∧ A.sz + k = xs.length ∧ Lf xs A.ens f lk ∧ SeenAt wr gs xs.length f)) (fun _ i _ => xs.length - (intOf i).toNat)
      case atStart => exact ⟨0, by omega, rfl, 4503599627370495, s1, M, bk, _, rfl, HT0⟩
      case round =>
        obtain ⟨k, hk, rfl, lk, s, A, bk, f, rfl, hS⟩ := hrel
        clear HT0
        by_cases hkl : k < xs.length
        · skip
          cases A with
          | nil => exact absurd hS.out.2.2.2.1 (by simp only [sz]; omega)
          | nd a kk x l r =>
            obtain ⟨s1, e1, hp1, ct1⟩ := pop_at hS.out.2.2.1 hS.out.2.1 rfl
            have e1' : Wd.rpop 0 18 s = ((some (kk, x), 0), s1) := e1
            have HE := hid e1'
            have hrk := hS.out.2.2.1.rks
            have hkw := hS.out.2.2.1.kw (kk, x) (by simp [ens])
            have hok := hS.out.2.2.1.oa
            obtain ⟨j, hj, hjl, hjf, hlk, hlf⟩ := Lf.step (p := (kk, x)) (E := l.ens ++ r.ens) hS.out.2.2.2.2.1 hkw.1 hok.2.2.2
            have hlrr : l.rk + r.rk ≤ 128 := by
              have z := rk_sz l hok.1
              have z2 := hS.out.2.2.1.szs.1
              have z4 : (nd a kk x l r).sz = l.sz + r.sz + 1 := rfl
              have z5 := rk_le_sz l
              have z6 := rk_le_sz r
              omega
            have HNW : Hid (s1.f < 0 ∧ Hp s1.W 400 18 (mrg 128 l r) 20 nil (a :: bk) ∧ (mrg 128 l r).sz + (k + 1) = xs.length ∧ Lf xs (mrg 128 l r).ens (fun i => if i = j then true else f i) kk) := by
              refine hid ⟨by rw [ct1.f]; exact hS.out.2.1, hp1, ?_, hlf.perm (mrg_ens 128 l r hlrr).symm⟩
              have z := hS.out.2.2.2.1
              have z4 : (nd a kk x l r).sz = l.sz + r.sz + 1 := rfl
              rw [mrg_sz hlrr]
              omega
            have hx : x = (j : Int) := congrArg Prod.snd hj
            have hkk : kk = ofR (oat xs j).toNat := congrArg Prod.fst hj
            subst hx
            have HFC := hid (fcase (lk := lk) (k := kk) hS.out.2.2.2.2.1.lr hkw.1 hlk)
            have HKK := hid hkk
            clear e1 e1' hp1 ct1 hrk hkw hok hj hlk hlf hlrr hkk
            have hkl' : (k : Int) < (xs.length : Int) := by omega
            have hwk1 : IntKind.i64.wrap ((k : Int) + 1) = ((k + 1 : Nat) : Int) := by rw [IntKind.wrap_i64]; have := HN.out; omega
            have hwl : IntKind.u64.wrap (xs.length : Int) = (xs.length : Int) := by rw [IntKind.wrap_u64]; have := HN.out; omega
            have hjl' : (j : Int) < (xs.length : Int) := by omega
            have a0 := hS.out.1.a0
            go_wp2_with fail
            refine (pop_any HE ⟨by decide, by decide⟩ hS.out.1.wd).mono ?_
            rintro e_ w3 ⟨rfl, h3, k3⟩
            have HS3 : Hid (Fs w (q6 + 1) b g c q6 w3 s1 ∧ SeenAt w3 gs xs.length f) := by
              have z := hS.out.1.hi
              have z2 := HGS.out
              exact hid ⟨hS.out.1.acc k3 h3, hS.out.2.2.2.2.2.keeps k3 (fun e => by rcases e with e | e <;> omega)⟩
            rw [rkV_eq]
            clear h3 k3 HE a0
            obtain ⟨xb, hxb⟩ : ∃ n, reB kk = n := ⟨_, rfl⟩
            rw [show nO (some (kk, (j : Int))) = xb from hxb, show xO (some (kk, (j : Int))) = (j : Int) from rfl]
            have HXB := hid hxb
            clear hxb
            have HX3 := hid (HS3.out.1.new (keeps_new w3 (.cells #[.float .f64 xb, .int .u64 (j : Int)] 40)))
            have hS3 := HS3.out.2.keeps (keeps_new w3 (.cells #[.float .f64 xb, .int .u64 (j : Int)] 40)) (fun f => f)
            have hB3 : (w3.alloc (.cells #[.float .f64 xb, .int .u64 (j : Int)] 40)).heap[w3.heap.size]? = some (.cells #[.float .f64 xb, .int .u64 (j : Int)] 40 (0, 0)) := alloc_block w3 _
            have cS := hS3.cell hjl
            rw [hjf] at cS
            have fS := hS3.frozen j
            have hne : w3.heap.size ≠ gs := by
              obtain ⟨cur, z, _⟩ := HS3.out.2
              have := lt_of_block z
              omega
            have k4 := keeps_set (w3.alloc (.cells #[.float .f64 xb, .int .u64 (j : Int)] 40)) gs j (.bool true)
            have HX4 : Hid (Fs w (q6 + 1) b g c q6 ((w3.alloc (.cells #[.float .f64 xb, .int .u64 (j : Int)] 40)).setCell ⟨gs, j, none⟩ (.bool true)) s1 ∧ SeenAt ((w3.alloc (.cells #[.float .f64 xb, .int .u64 (j : Int)] 40)).setCell ⟨gs, j, none⟩ (.bool true)) gs xs.length (fun i => if i = j then true else f i)) := by
              exact hid ⟨HX3.out.own k4 (fun i e => by have := HGS.out; omega), hS3.set⟩
            have hB4 := (k4.block w3.heap.size (lt_of_block hB3) (fun e => hne (by simpa using e))).trans hB3
            have c40 : ((w3.alloc (.cells #[.float .f64 xb, .int .u64 (j : Int)] 40)).setCell ⟨gs, j, none⟩ (.bool true)).cell? ⟨w3.heap.size, 0, none⟩ = some (.float .f64 xb) := by rw [cell_of_block hB4]; rfl
            have c41 : ((w3.alloc (.cells #[.float .f64 xb, .int .u64 (j : Int)] 40)).setCell ⟨gs, j, none⟩ (.bool true)).cell? ⟨w3.heap.size, 1, none⟩ = some (.int .u64 (j : Int)) := by rw [cell_of_block hB4]; rfl
            obtain ⟨_, _, qv, hc⟩ := HLL.out _ HX4.out.1.k
            injection qv with qv q2_ q3_
            clear q2_ q3_
            obtain ⟨g1, off1, eA, cA⟩ := hc j hjl
            rw [← qv] at eA
            cases eA
            have HB4 := hid hB4
            have HNE2 := hid hne
            clear qv hc hB3 hB4 hS3 hne k4 HS3 HX3
            go_wp2_with fail
            clear cA c41 cS fS
            generalize ((w3.alloc (.cells #[.float .f64 xb, .int .u64 (j : Int)] 40)).setCell ⟨gs, j, none⟩ (.bool true)) = X4 at *
            have hbw := oat_isW HXS.out j
            have HBN : Hid ((oat xs j).toNat < 18446744073709551616) := by have := hbw.1; have := hbw.2; exact hid (by omega)
            clear hbw
            generalize (oat xs j).toNat = bj at *
            have HLB : Hid (reB lk < 18446744073709551616) := by
              have z := hS.out.2.2.2.2.1.lr
              simp only [reK, decide_eq_true_eq] at z
              exact hid (reB_lt ⟨by omega, by omega⟩)
            generalize reB lk = lb at *
            cases hn : nan bj with
            | false =>
              obtain rfl : xb = bj := by rw [← HXB.out, HKK.out]; exact reB_ofR HBN.out hn
              have hE1 : (FloatKind.f64.format.order xb xb == some Ordering.eq) = true := ord_self HBN.out hn
              have hE2 : (FloatKind.f64.format.order xb xb != some Ordering.eq) = false := by simp [bne, hE1]
              go_quiet (fail)
              have HXF := HFC.out
              rw [HXB.out] at HXF
              have cXb : X4.cell? ⟨w3.heap.size, 0, none⟩ = some (.float .f64 xb) := c40
              cases HXF with
              | nn _ z => rw [hn] at z; cases z
              | fn _ z => rw [hn] at z; cases z
              | ff h1 _ h3 h4 =>
                have hA1 : (FloatKind.f64.format.order lb lb == some Ordering.eq) = true := ord_self HLB.out h1
                have hA2 : (FloatKind.f64.format.order lb lb != some Ordering.eq) = false := by simp [bne, hA1]
                have hC1 : (FloatKind.f64.format.order xb lb == some Ordering.lt) = false := by rw [ord_lt HBN.out HLB.out hn h1]; exact decide_eq_false h3
                have H4 := hid h4
                clear h3 h4
                by_cases hD : key xb = key lb
                · have hD1 : (FloatKind.f64.format.order xb lb == some Ordering.eq) = true := by rw [ord_eq HBN.out HLB.out hn h1]; exact decide_eq_true hD
                  have HD := hid hD
                  by_cases hZ : key xb = 0
                  · have hZ1 : (FloatKind.f64.format.order xb 0 == some Ordering.eq) = true := by rw [ord_eq HBN.out (by decide) hn (by decide)]; exact decide_eq_true hZ
                    have HZ := hid hZ
                    clear hD hZ
                    go_wp2_with fail
                    refine (signbit xb HBN.out _).mono ?_
                    rintro e_ w_ ⟨rfl, hw_⟩
                    subst w_
                    by_cases hs : 9223372036854775808 ≤ xb
                    · have hs1 : decide (9223372036854775808 ≤ xb) = true := decide_eq_true hs
                      have hl1 : decide (9223372036854775808 ≤ lb) = true := decide_eq_true (H4.out HD.out HZ.out hs)
                      rw [hs1]
                      clear hs hs1
                      go_wp2_with fail
                      refine (signbit lb HLB.out _).mono ?_
                      rintro e_ w_ ⟨rfl, hw_⟩
                      subst w_
                      rw [hl1]
                      clear hl1
                      go_wp2_with fail
                      go_roundw
                      case rel => exact ⟨k + 1, by omega, by simp, kk, s1, _, _, _, by rw [HXB.out], hid ⟨HX4.out.1.new ((Keeps.refl _ _).drewN _), HNW.out.1, HNW.out.2.1, HNW.out.2.2.1, HNW.out.2.2.2, HX4.out.2.keeps ((Keeps.refl (fun _ => False) _).drewN _) (fun f => f)⟩⟩
                      case measure => simp [intOf]; omega
                    · have hs1 : decide (9223372036854775808 ≤ xb) = false := decide_eq_false hs
                      rw [hs1]
                      clear hs hs1
                      go_wp2_with fail
                      go_roundw
                      case rel => exact ⟨k + 1, by omega, by simp, kk, s1, _, _, _, by rw [HXB.out], hid ⟨HX4.out.1.new ((Keeps.refl _ _).drewN _), HNW.out.1, HNW.out.2.1, HNW.out.2.2.1, HNW.out.2.2.2, HX4.out.2.keeps ((Keeps.refl (fun _ => False) _).drewN _) (fun f => f)⟩⟩
                      case measure => simp [intOf]; omega
                  · have hZ1 : (FloatKind.f64.format.order xb 0 == some Ordering.eq) = false := by rw [ord_eq HBN.out (by decide) hn (by decide)]; exact decide_eq_false hZ
                    clear hD hZ
                    go_wp2_with fail
                    go_roundw
                    case rel => exact ⟨k + 1, by omega, by simp, kk, s1, _, _, _, by rw [HXB.out], hid ⟨HX4.out.1.new ((Keeps.refl _ _).drewN _), HNW.out.1, HNW.out.2.1, HNW.out.2.2.1, HNW.out.2.2.2, HX4.out.2.keeps ((Keeps.refl (fun _ => False) _).drewN _) (fun f => f)⟩⟩
                    case measure => simp [intOf]; omega
                · have hD1 : (FloatKind.f64.format.order xb lb == some Ordering.eq) = false := by rw [ord_eq HBN.out HLB.out hn h1]; exact decide_eq_false hD
                  clear hD
                  go_wp2_with fail
                  go_roundw
                  case rel => exact ⟨k + 1, by omega, by simp, kk, s1, _, _, _, by rw [HXB.out], hid ⟨HX4.out.1.new ((Keeps.refl _ _).drewN _), HNW.out.1, HNW.out.2.1, HNW.out.2.2.1, HNW.out.2.2.2, HX4.out.2.keeps ((Keeps.refl (fun _ => False) _).drewN _) (fun f => f)⟩⟩
                  case measure => simp [intOf]; omega
            | true =>
              obtain rfl : xb = 9221120237041090561 := by rw [← HXB.out, HKK.out]; exact reB_ofN hn
              have hE1 : (FloatKind.f64.format.order bj bj == some Ordering.eq) = false := ord_noL hn _ (by simp)
              have hE2 : (FloatKind.f64.format.order bj bj != some Ordering.eq) = true := by simp [bne, hE1]
              have hE3 : (FloatKind.f64.format.order 9221120237041090561 9221120237041090561 == some Ordering.eq) = false := by kernel_rfl
              go_quiet (fail)
              have HXF := HFC.out
              rw [HXB.out] at HXF
              have hC1 : (FloatKind.f64.format.order 9221120237041090561 lb == some Ordering.lt) = false := ord_noL (by decide) _ (by simp)
              have hD1 : (FloatKind.f64.format.order 9221120237041090561 lb == some Ordering.eq) = false := ord_noL (by decide) _ (by simp)
              cases HXF with
              | nn h1 _ =>
                have hA1 : (FloatKind.f64.format.order lb lb == some Ordering.eq) = false := ord_noL h1 _ (by simp)
                have hA2 : (FloatKind.f64.format.order lb lb != some Ordering.eq) = true := by simp [bne, hA1]
                go_wp2_with fail
                go_roundw
                case rel => exact ⟨k + 1, by omega, by simp, kk, s1, _, _, _, by rw [HXB.out], hid ⟨HX4.out.1.new ((Keeps.refl _ _).drewN _), HNW.out.1, HNW.out.2.1, HNW.out.2.2.1, HNW.out.2.2.2, HX4.out.2.keeps ((Keeps.refl (fun _ => False) _).drewN _) (fun f => f)⟩⟩
                case measure => simp [intOf]; omega
              | fn h1 _ =>
                have hA1 : (FloatKind.f64.format.order lb lb == some Ordering.eq) = true := ord_self HLB.out h1
                have hA2 : (FloatKind.f64.format.order lb lb != some Ordering.eq) = false := by simp [bne, hA1]
                go_wp2_with fail
                go_roundw
                case rel => exact ⟨k + 1, by omega, by simp, kk, s1, _, _, _, by rw [HXB.out], hid ⟨HX4.out.1.new ((Keeps.refl _ _).drewN _), HNW.out.1, HNW.out.2.1, HNW.out.2.2.1, HNW.out.2.2.2, HX4.out.2.keeps ((Keeps.refl (fun _ => False) _).drewN _) (fun f => f)⟩⟩
                case measure => simp [intOf]; omega
              | ff _ z => exact absurd z (by decide)
        · obtain rfl : k = xs.length := by omega
          clear hkl hk
          have hA0 : A = nil := by
            have z := hS.out.2.2.2.1
            cases A with
            | nil => rfl
            | nd => simp only [sz] at z; omega
          subst hA0
          obtain ⟨s1, e1, m1⟩ := pop_none hS.out.2.2.1 hS.out.2.1 rfl
          have e1' : Wd.rpop 0 18 s = ((none, 0), s1) := e1
          have HE := hid e1'
          clear e1 e1' m1
          have a0 := hS.out.1.a0
          go_wp2_with fail
          refine (pop_any HE ⟨by decide, by decide⟩ hS.out.1.wd).mono ?_
          rintro e_ w3 ⟨rfl, h3, k3⟩
          have HK3 := hid (hS.out.1.acc k3 h3).k
          rw [rkV_eq]
          clear h3 k3 HE a0
          go_wp2_with fail
          refine (known_any _).mono ?_
          rintro e_ w4 ⟨rfl, k4⟩
          have HK4 := hid ((HK3.out.trans (keeps_new w3 _)).trans k4)
          clear k4
          go_wp2_with fail
          go_ret
          exact ⟨rfl, HK4.out⟩
set_option maxRecDepth 100000 in
set_option maxHeartbeats 8000000 in
theorem sorts_none (av : Option Addr) (cv : Nat) (xs : List Int) (hne : xs.length = 0) (cut : Int) (_hcut : -9223372036854775808 ≤ cut ∧ cut < 9223372036854775808) (hxs : ∀ x ∈ xs, isW x) (w : World) (hl : Lies w (.slice av xs.length cv) xs) :
    Calls Try.prog 6 #[.slice av xs.length cv, .int .i64 cut] w fun e w' => e = .returned (.bool true) ∧ Keeps (fun _ => False) w w' := by
  have HL := hid hl
  have HNE := hid hne
  clear hl
  have HXS := hid hxs
  clear hxs hne
  by_cases hbig : 60 < xs.length
  · have hb' : (60 : Int) < (xs.length : Int) := by omega
    go_enter Try.func6, Try.ntmps6
    go_wp2_with fail
    refine (known_any _).mono ?_
    rintro e_ w1 ⟨rfl, k1⟩
    go_wp2_with fail
    go_ret
    exact ⟨rfl, k1⟩
  have hb' : (xs.length : Int) ≤ 60 := by omega
  have HN : Hid (xs.length ≤ 60) := hid (by omega)
  clear hbig
  have HLL : Hid (∀ X, Keeps (fun _ => False) w X → Lies X (.slice av xs.length cv) xs) := hid fun X k => HL.out.keeps k (fun _ _ _ _ f => f)
  go_enter Try.func6, Try.ntmps6
  go_wp2_with fail
  refine (begin_any 400 (by decide) (by decide) _).mono ?_
  rintro e_ w1 ⟨b, g, c, rfl, h1, k1, lb, lg⟩
  have H1 := hid h1
  have K1 := hid k1
  have LB := hid (And.intro lb lg)
  clear h1 k1 lb lg
  go_wp2_with fail
  clear hb'
  obtain ⟨q6, hq6⟩ : ∃ q, w1.heap.size = q := ⟨_, rfl⟩
  rw [hq6]
  have HS0 : Hid (Fs w (q6 + 1) b g c q6 (w1.alloc (.cells #[.int .u64 18, .int .u64 20] 26)) (B3 400) ∧ (B3 400).f < 0 ∧ Hp (B3 400).W 400 18 nil 20 nil [] ∧ ((nil : Bt).ens ++ (nil : Bt).ens).Perm ((List.range 0).map (enB xs))) := by
    have kA := keeps_new w1 (.cells #[.int .u64 18, .int .u64 20] 26)
    have l1 := H1.out.ltb
    have l2 := H1.out.ltg
    have l3 := K1.out.size
    have f0 := (beg_of (m := 400) (by decide) (by decide)).2.2.2.2
    refine hid ⟨⟨H1.out.kept kA (fun f => f) (fun f => f), K1.out.trans kA, by rw [← hq6]; exact alloc_block w1 _, by have := LB.out; omega, by omega, by simp; omega⟩, by rw [f0]; decide, beg_hp (by decide) (by decide), .refl _⟩
  clear H1 K1 LB hq6
  go_loopw [8] (fun i wr => ∃ k : Nat, k ≤ xs.length ∧ i = .int .i64 k ∧ ∃ s A B bk, Hid (Fs w (q6 + 1) b g c q6 wr s ∧ s.f < 0 ∧ Hp s.W 400 18 A 20 B bk ∧ (A.ens ++ B.ens).Perm ((List.range k).map (enB xs)))) (fun i _ => xs.length - (intOf i).toNat)
  case atStart => exact ⟨0, by omega, rfl, _, _, _, _, HS0⟩
  case round =>
    obtain ⟨k, hk, rfl, s, A, B, bk, hS⟩ := hrel
    clear HS0
    by_cases hkl : k < xs.length
    · skip
      exact absurd hkl (by have := HNE.out; omega)
    · obtain rfl : k = xs.length := by omega
      clear hkl hk
      obtain ⟨s1, e1, hp1, ct1⟩ := join_at hS.out.2.2.1 hS.out.2.1 rfl
      have e1' : Wd.rjoin 18 20 s = (((), 0), s1) := e1
      have HE := hid e1'
      have hrk := hS.out.2.2.1.rks
      have HNW : Hid (s1.f < 0 ∧ ∃ M, Hp s1.W 400 18 M 20 nil bk ∧ M.ens.Perm ((List.range xs.length).map (enB xs))) := hid ⟨by rw [ct1.f]; exact hS.out.2.1, _, hp1, (mrg_ens 128 A B (by omega)).trans hS.out.2.2.2⟩
      clear e1 e1' hp1 ct1 hrk
      have a0 := hS.out.1.a0
      have a1 := hS.out.1.a1
      go_wp2_with fail
      refine (joinh_any HE ⟨by decide, by decide⟩ ⟨by decide, by decide⟩ hS.out.1.wd).mono ?_
      rintro e_ w2 ⟨rfl, h2, k2⟩
      have HS2 := hid (hS.out.1.acc k2 h2)
      clear h2 k2 HE a0 a1 hS
      have hmk := run_seen xs.length HN.out
      go_wp2_with fail
      refine (math_neginf _).mono ?_
      rintro e_ w_ ⟨rfl, hw_⟩
      subst w_
      go_wp2_with fail
      obtain ⟨M, HPM⟩ := HNW.out.2
      obtain ⟨gs, hgs⟩ : ∃ q, w2.heap.size = q := ⟨_, rfl⟩
      rw [hgs]
      have HGS : Hid (q6 + 1 ≤ gs) := by have := HS2.out.sz; exact hid (by omega)
      have HT0 : Hid (Fs w (q6 + 1) b g c q6 (w2.alloc (.cells (madeCells #[.bool false] xs.length) 4)) s1 ∧ s1.f < 0 ∧ Hp s1.W 400 18 M 20 nil bk ∧ M.sz + 0 = xs.length ∧ Lf xs M.ens (fun _ => false) 4503599627370495 ∧ SeenAt (w2.alloc (.cells (madeCells #[.bool false] xs.length) 4)) gs xs.length (fun _ => false)) := by
        refine hid ⟨HS2.out.new (keeps_new w2 _), HNW.out.1, HPM.1, ?_, Lf.start HXS.out HPM.2, by rw [← hgs]; exact seen_made w2 _⟩
        have z := HPM.2.length_eq
        rw [ens_sz, List.length_map, List.length_range] at z
        omega
      clear HS2 HNW HPM hgs hmk
      go_loopw [11, 12] (fun la i wr => ∃ k : Nat, k ≤ xs.length ∧ i = .int .i64 k ∧ ∃ lk s A bk f, la = .float .f64 (reB lk) ∧ Hid (Fs w (q6 + 1) b g c q6 wr s ∧ s.f < 0 ∧ Hp s.W 400 18 A 20 nil bk ∧ A.sz + k = xs.length ∧ Lf xs A.ens f lk ∧ SeenAt wr gs xs.length f)) (fun _ i _ => xs.length - (intOf i).toNat)
      case atStart => exact ⟨0, by omega, rfl, 4503599627370495, s1, M, bk, _, rfl, HT0⟩
      case round =>
        obtain ⟨k, hk, rfl, lk, s, A, bk, f, rfl, hS⟩ := hrel
        clear HT0
        by_cases hkl : k < xs.length
        · skip
          exact absurd hkl (by have := HNE.out; omega)
        · obtain rfl : k = xs.length := by omega
          clear hkl hk
          have hA0 : A = nil := by
            have z := hS.out.2.2.2.1
            cases A with
            | nil => rfl
            | nd => simp only [sz] at z; omega
          subst hA0
          obtain ⟨s1, e1, m1⟩ := pop_none hS.out.2.2.1 hS.out.2.1 rfl
          have e1' : Wd.rpop 0 18 s = ((none, 0), s1) := e1
          have HE := hid e1'
          clear e1 e1' m1
          have a0 := hS.out.1.a0
          go_wp2_with fail
          refine (pop_any HE ⟨by decide, by decide⟩ hS.out.1.wd).mono ?_
          rintro e_ w3 ⟨rfl, h3, k3⟩
          have HK3 := hid (hS.out.1.acc k3 h3).k
          rw [rkV_eq]
          clear h3 k3 HE a0
          go_wp2_with fail
          refine (known_any _).mono ?_
          rintro e_ w4 ⟨rfl, k4⟩
          have HK4 := hid ((HK3.out.trans (keeps_new w3 _)).trans k4)
          clear k4
          go_wp2_with fail
          go_ret
          exact ⟨rfl, HK4.out⟩
theorem sorts_walk (v : Value) (xs : List Int) (cut : Int) (hcut : -9223372036854775808 ≤ cut ∧ cut < 9223372036854775808) (hxs : ∀ x ∈ xs, isW x) (w : World) (hl : Lies w v xs) :
    Calls Try.prog 6 #[v, .int .i64 cut] w fun e w' => e = .returned (.bool true) ∧ Keeps (fun _ => False) w w' := by
  obtain ⟨av, cv, rfl, hc⟩ := id hl
  by_cases h0 : xs.length = 0
  · exact sorts_none av cv xs h0 cut hcut hxs w hl
  · obtain ⟨g, off, rfl, _⟩ := hc 0 (by omega)
    exact sorts_some g off cv xs cut hcut hxs w hl
end Go.Proofs.Ytalopkllldnipaa
