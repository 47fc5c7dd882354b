
/-
  The walk of LogsBack over inputs that lie in memory. The statement itself is not proved here.
-/
import Derived.Test.YtljcojonchfjfaaDoorWorks
import Derived.Test.YtljcojonchfjfaaDoorOverP
import Derived.Test.YtljcojonchfjfaaDoorCells
namespace Go.Proofs.YtljcojonchfjfaaDoor
open Go.RowKit Go.Shelf

/-- Three redo logs, new and apart. -/
structure Tri (w W : World) (a b c : Nat) (A B C : List (Int × Int)) (Oa Ob Oc : Nat → Prop) : Prop where
  la : LogAt W a 1000000 A Oa
  lb : LogAt W b 1000000 B Ob
  lc : LogAt W c 1000000 C Oc
  na : ∀ q, Oa q → w.heap.size ≤ q
  nb : ∀ q, Ob q → w.heap.size ≤ q
  nc : ∀ q, Oc q → w.heap.size ≤ q
  ab : ∀ q, Oa q → ¬ Ob q
  ac : ∀ q, Oa q → ¬ Oc q
  bc : ∀ q, Ob q → ¬ Oc q
  kp : Keeps (fun _ => False) w W
section
variable {w W W' : World} {a b c : Nat} {A A' B B' C C' : List (Int × Int)} {Oa Oa' Ob Ob' Oc Oc' : Nat → Prop}
theorem Tri.stepA (h : Tri w W a b c A B C Oa Ob Oc) (h1 : LogAt W' a 1000000 A' Oa') (h2 : ∀ q, Oa' q → Oa q ∨ W.heap.size ≤ q) (h3 : Keeps Oa W W') : Tri w W' a b c A' B C Oa' Ob Oc :=
  ⟨h1, h.lb.kept h3 (fun q hq e => h.ab q e hq), h.lc.kept h3 (fun q hq e => h.ac q e hq), fun q hq => by rcases h2 q hq with e | e; exact h.na q e; exact Nat.le_trans h.kp.size e, h.nb, h.nc,
    fun q hq e => by rcases h2 q hq with e1 | e1; exact h.ab q e1 e; have := h.lb.lt e; omega, fun q hq e => by rcases h2 q hq with e1 | e1; exact h.ac q e1 e; have := h.lc.lt e; omega, h.bc, h.kp.step h3 (fun q hq e => by have := h.na q e; omega)⟩
theorem Tri.turn (h : Tri w W a b c A B C Oa Ob Oc) : Tri w W b c a B C A Ob Oc Oa :=
  ⟨h.lb, h.lc, h.la, h.nb, h.nc, h.na, h.bc, fun q hq e => h.ab q e hq, fun q hq e => h.ac q e hq, h.kp⟩
theorem Tri.same (h : Tri w W a b c A B C Oa Ob Oc) (k : Keeps (fun _ => False) W W') : Tri w W' a b c A B C Oa Ob Oc :=
  ⟨h.la.kept k (fun _ _ f => f), h.lb.kept k (fun _ _ f => f), h.lc.kept k (fun _ _ f => f), h.na, h.nb, h.nc, h.ab, h.ac, h.bc, h.kp.trans k⟩
theorem notFull {L : List (Int × Int)} (h : L.length < 1000000) (x : Int) : ¬ Full 1000000 L x := fun hf => by
  have := redoE_length L
  have := hf.2
  omega
theorem Tri.put (h : Tri w W a b c A B C Oa Ob Oc) (hw : Tz w) (hA : A.length < 1000000) (x y : Int) (W0 : World) (hl : Like W0 W) :
    Calls Tryd.prog 29 #[.pointer (some ⟨a, 0, none⟩), .int .u64 x, .int .u64 y] W0 fun e w4 => e = .returned (.int .i64 0) ∧ ∃ Oa', Tri w w4 a b c (A ++ [(x, y)]) B C Oa' Ob Oc := by
  have h0 := h.same (W' := W0) (hl.keeps (Keeps.refl _ _))
  refine (log_put a 1000000 A Oa x y W0 h0.la (hw.keeps h0.kp (fun f => f)) (by omega) (notFull hA x)).mono ?_
  rintro e w4 ⟨rfl, ⟨Oa', h1, h2⟩, h3⟩
  exact ⟨rfl, Oa', h0.stepA h1 h2 h3⟩
theorem Tri.putB (h : Tri w W a b c A B C Oa Ob Oc) (hw : Tz w) (hB : B.length < 1000000) (x y : Int) (W0 : World) (hl : Like W0 W) :
    Calls Tryd.prog 29 #[.pointer (some ⟨b, 0, none⟩), .int .u64 x, .int .u64 y] W0 fun e w4 => e = .returned (.int .i64 0) ∧ ∃ Ob', Tri w w4 a b c A (B ++ [(x, y)]) C Oa Ob' Oc :=
  (h.turn.put hw hB x y W0 hl).mono fun _ _ ⟨h1, Ob', h2⟩ => ⟨h1, Ob', h2.turn.turn⟩
theorem Tri.putC (h : Tri w W a b c A B C Oa Ob Oc) (hw : Tz w) (hC : C.length < 1000000) (x y : Int) (W0 : World) (hl : Like W0 W) :
    Calls Tryd.prog 29 #[.pointer (some ⟨c, 0, none⟩), .int .u64 x, .int .u64 y] W0 fun e w4 => e = .returned (.int .i64 0) ∧ ∃ Oc', Tri w w4 a b c A B (C ++ [(x, y)]) Oa Ob Oc' :=
  (h.turn.turn.put hw hC x y W0 hl).mono fun _ _ ⟨h1, Oc', h2⟩ => ⟨h1, Oc', h2.turn⟩
/-- What a Put hands on in a region that reads an entry. -/
theorem put_handed {w W0 : World} {P : World → Prop} {f : Nat} {args : Array Value} {g m : Nat} {x y : Int} (h : Calls Tryd.prog f args W0 fun e w4 => e = .returned (.int .i64 0) ∧ P w4) (hP : ∀ W, P W → Keeps (fun _ => False) w W)
    (HC : Hid (∀ W, Keeps (fun _ => False) w W → W.cell? ⟨g, m, none⟩ = some (.int .u64 x) ∧ W.cell? ⟨g, m + 1, none⟩ = some (.int .u64 y))) :
    Calls Tryd.prog f args W0 fun e w4 => e = .returned (.int .i64 0) ∧ (w4.cell? ⟨g, m, none⟩ = some (.int .u64 x) ∧ w4.cell? ⟨g, m + 1, none⟩ = some (.int .u64 y)) ∧ Hid (P w4) :=
  h.mono fun _ w4 ⟨h1, h2⟩ => ⟨h1, HC.out w4 (hP w4 h2), h2⟩
end

set_option maxRecDepth 100000 in
set_option maxHeartbeats 2000000 in
theorem back_walk (va vb vc : Value) (ps qs : List (Int × Int)) (cs : List Int) (w : World) (hw : Tz w) (ha : Pairs w va ps) (hb : Pairs w vb qs) (hc : Reads w vc cs) (hna : ∀ c, c ∈ ps → 0 ≤ c.1) (hnb : ∀ c, c ∈ qs → 0 ≤ c.1) (hal : ps.length ≤ 35184372088832) (hbl : qs.length ≤ 35184372088832) :
    Calls Tryd.prog 6 #[va, vb, vc] w fun e w' => e = .returned (.bool true) ∧ Keeps (fun _ => False) w w' := by
  have hp := hw.pos
  obtain ⟨a1, ca, rfl, hca⟩ := id ha
  obtain ⟨b1, cb, rfl, hcb⟩ := id hb
  obtain ⟨c1, cc, rfl⟩ := hc.form
  clear hca hcb
  go_enter Tryd.func6, Tryd.ntmps6
  go_wp2_with fail
  refine (log_new 1000000 (by decide) w hp).mono ?_
  rintro e w1 ⟨a, rfl, ⟨Oa, hA, hOa⟩, hk1⟩
  have hs1 := hk1.size
  go_wp2_with fail
  refine (log_new 1000000 (by decide) w1 (by omega)).mono ?_
  rintro e w2 ⟨b, rfl, ⟨Ob, hB, hOb⟩, hk2⟩
  have hs2 := hk2.size
  go_wp2_with fail
  refine (log_new 1000000 (by decide) w2 (by omega)).mono ?_
  rintro e w3 ⟨c, rfl, ⟨Oc, hC, hOc⟩, hk3⟩
  have hT : Tri w w3 a b c [] [] [] Oa Ob Oc := ⟨(hA.kept hk2 (fun _ _ f => f)).kept hk3 (fun _ _ f => f), hB.kept hk3 (fun _ _ f => f), hC, hOa, fun q hq => Nat.le_trans hs1 (hOb q hq), fun q hq => Nat.le_trans (Nat.le_trans hs1 hs2) (hOc q hq),
    fun q hq e => by have := hA.lt hq; have := hOb q e; omega, fun q hq e => by have := hA.lt hq; have := hOc q e; omega, fun q hq e => by have := hB.lt hq; have := hOc q e; omega, (hk1.trans hk2).trans hk3⟩
  clear hA hB hC hOa hOb hOc hk1 hk2 hk3 hs1 hs2
  have hwork := fun W (hk : Keeps (fun _ => False) w W) => works_any W (hw.keeps hk (fun f => f))
  by_cases hla : ps.length ≤ 1000
  · by_cases hlb : qs.length ≤ 1000
    · go_wp2_with fail
      go_loopw [13] (fun i wr => ∃ k Oa Ob, k ≤ ps.length ∧ i = .int .i64 (k : Nat) ∧ Tri w wr a b c (ps.take k) (ps.take k) [] Oa Ob Oc) (fun i _ => ps.length - (intOf i).toNat)
      case atStart => exact ⟨0, Oa, Ob, by omega, rfl, hT⟩
      case round =>
        clear hT
        obtain ⟨k, Oa1, Ob1, hk, rfl, hT⟩ := hrel
        by_cases hlt : k < ps.length
        · obtain ⟨g, off, x, y, rfl, hx, HC⟩ := ha.fixed hlt
          obtain ⟨d1, d2⟩ := HC.out wr hT.kp
          have HX : Hid (ps[k]? = some (x, y)) := hx
          have hl1 : (ps.take k).length < 1000000 := by rw [List.length_take]; omega
          have hput := fun W0 hl => put_handed (hT.put hw hl1 x y W0 hl) (fun W h => by obtain ⟨_, q⟩ := h; exact q.kp) HC
          have hlt' : (k : Int) < (ps.length : Int) := by omega
          clear hx
          go_wp2_with fail
          go_region_held3 (fun W => W.cell? ⟨g, off + k * 2, none⟩ = some (.int .u64 x) ∧ W.cell? ⟨g, off + k * 2 + 1, none⟩ = some (.int .u64 y)) (first | assumption | (exact ⟨d1, d2⟩) | go_keep) ((go_at_call 29; refine (hput _ (by exact ⟨rfl, rfl, rfl, rfl⟩)).mono ?_; rintro e w4 ⟨rfl, hS, hH⟩))
          obtain ⟨Oa2, hT4⟩ := hH.out
          clear hput hH d1 d2 hT
          obtain ⟨d1, d2⟩ := hS
          have hput := fun W0 hl => put_handed (hT4.putB hw hl1 x y W0 hl) (fun W h => by obtain ⟨_, q⟩ := h; exact q.kp) HC
          go_wp2_with fail
          go_region_held3 (fun W => W.cell? ⟨g, off + k * 2, none⟩ = some (.int .u64 x) ∧ W.cell? ⟨g, off + k * 2 + 1, none⟩ = some (.int .u64 y)) (first | assumption | (exact ⟨d1, d2⟩) | go_keep) ((go_at_call 29; refine (hput _ (by exact ⟨rfl, rfl, rfl, rfl⟩)).mono ?_; rintro e w5 ⟨rfl, hS, hH⟩))
          obtain ⟨Ob2, hT5⟩ := hH.out
          rw [← take_succ_at HX.out] at hT5
          clear hput hH d1 d2 hT4 hS
          go_wp2_with fail
          go_roundw
          case rel => exact ⟨k + 1, Oa2, Ob2, by omega, by go_num, hT5⟩
          case measure => simp [intOf]; omega
        · obtain rfl : k = ps.length := by omega
          rw [List.take_length] at hT
          have hmark := log_mark a 1000000 ps Oa1 wr hT.la
          obtain ⟨W1, hW1⟩ : ∃ W, W = wr := ⟨_, rfl⟩
          subst hW1
          clear hlt hk
          go_wp2_with (go_at_call 33; refine hmark.mono ?_; rintro e w' ⟨rfl, hw'⟩; replace hw' := hw'.symm; subst hw')
          clear hmark
          go_loopw [15] (fun i wr => ∃ k Oa Oc, k ≤ qs.length ∧ i = .int .i64 (k : Nat) ∧ Tri w wr a b c (ps ++ qs.take k) ps (qs.take k) Oa Ob1 Oc) (fun i _ => qs.length - (intOf i).toNat)
          case atStart => exact ⟨0, Oa1, Oc, by omega, rfl, by simpa using hT⟩
          case round =>
            clear hT
            obtain ⟨k, Oa2, Oc2, hk, rfl, hT⟩ := hrel
            by_cases hlt : k < qs.length
            · obtain ⟨g, off, x, y, rfl, hx, HC⟩ := hb.fixed hlt
              obtain ⟨d1, d2⟩ := HC.out wr hT.kp
              have HX : Hid (qs[k]? = some (x, y)) := hx
              have hl1 : (ps ++ qs.take k).length < 1000000 := by rw [List.length_append, List.length_take]; omega
              have hl2 : (qs.take k).length < 1000000 := by rw [List.length_take]; omega
              have hput := fun W0 hl => put_handed (hT.put hw hl1 x y W0 hl) (fun W h => by obtain ⟨_, q⟩ := h; exact q.kp) HC
              have hlt' : (k : Int) < (qs.length : Int) := by omega
              clear hx
              go_wp2_with fail
              go_region_held3 (fun W => W.cell? ⟨g, off + k * 2, none⟩ = some (.int .u64 x) ∧ W.cell? ⟨g, off + k * 2 + 1, none⟩ = some (.int .u64 y)) (first | assumption | (exact ⟨d1, d2⟩) | go_keep) ((go_at_call 29; refine (hput _ (by exact ⟨rfl, rfl, rfl, rfl⟩)).mono ?_; rintro e w4 ⟨rfl, hS, hH⟩))
              obtain ⟨Oa3, hT4⟩ := hH.out
              clear hput hH d1 d2 hT
              obtain ⟨d1, d2⟩ := hS
              have hput := fun W0 hl => put_handed (hT4.putC hw hl2 x y W0 hl) (fun W h => by obtain ⟨_, q⟩ := h; exact q.kp) HC
              go_wp2_with fail
              go_region_held3 (fun W => W.cell? ⟨g, off + k * 2, none⟩ = some (.int .u64 x) ∧ W.cell? ⟨g, off + k * 2 + 1, none⟩ = some (.int .u64 y)) (first | assumption | (exact ⟨d1, d2⟩) | go_keep) ((go_at_call 29; refine (hput _ (by exact ⟨rfl, rfl, rfl, rfl⟩)).mono ?_; rintro e w5 ⟨rfl, hS, hH⟩))
              obtain ⟨Oc3, hT5⟩ := hH.out
              rw [List.append_assoc, ← take_succ_at HX.out] at hT5
              clear hput hH d1 d2 hT4 hS
              go_wp2_with fail
              go_roundw
              case rel => exact ⟨k + 1, Oa3, Oc3, by omega, by go_num, hT5⟩
              case measure => simp [intOf]; omega
            · obtain rfl : k = qs.length := by omega
              rw [List.take_length] at hT
              clear hlt hk
              obtain ⟨W2, hW2⟩ : ∃ W, W = wr := ⟨_, rfl⟩
              subst hW2
              have hcW : Reads W2 (.slice c1 cs.length cc) cs := ⟨hc.1, hc.2.keeps hT.kp⟩
              go_wp2_with fail
              refine (log_over_any b 1000000 ps Ob1 _ cs W2 hT.lb hcW hna).mono ?_
              rintro e w4 ⟨fv, E, fs, rfl, hf1, hf2, hk4⟩
              have hT4 := hT.same hk4
              clear hT hcW
              go_wp2_with fail
              refine (log_over_any c 1000000 qs Oc2 _ fs w4 hT4.lc hf1 hnb).mono ?_
              rintro e w5 ⟨bv, F, bw, rfl, hb1, hb2, hk5⟩
              have hT5 := hT4.same hk5
              have hcW : Reads w5 (.slice c1 cs.length cc) cs := ⟨hc.1, hc.2.keeps hT5.kp⟩
              clear hT4 hf1 hk4
              go_wp2_with fail
              refine (log_over_any a 1000000 (ps ++ qs) Oa2 _ cs w5 hT5.la hcW (fun c hc => by rcases List.mem_append.1 hc with h | h; exact hna c h; exact hnb c h)).mono ?_
              rintro e w6 ⟨av, G, aw, rfl, ha1, ha2, hk6⟩
              have hT6 := hT5.same hk6
              have hb6 : Reads w6 bv bw := ⟨hb1.1, hb1.2.keeps hk6⟩
              have HQ : Hid (E = 0 → F = 0 → G = 0 ∧ bw = aw) := by
                intro hE hF
                rcases hf2 with ⟨q1, q2, q3⟩ | ⟨_, q2, _⟩
                · rcases hb2 with ⟨r1, r2, r3⟩ | ⟨_, r2, _⟩
                  · have hlen : fs.length = cs.length := by rw [q3, overW_length]
                    rw [hlen] at r1
                    rcases ha2 with ⟨s1, s2, s3⟩ | ⟨s1, _, _⟩
                    · exact ⟨s2, by rw [r3, q3, s3, over_over hna hnb]⟩
                    · exact absurd (within_append q1 r1) s1
                  · omega
                · omega
              clear hf2 hb2 ha2 hT5 hcW hk5 hk6 hb1
              by_cases hE : E = 0
              · by_cases hF : F = 0
                · obtain ⟨rfl, rfl⟩ := HQ.out hE hF
                  subst hE hF
                  have hws := words_same bv av _ w6 hb6 ha1
                  clear HQ hb6 ha1
                  go_wp2_with (go_at_call 8; refine (num_any _ _).mono ?_; rintro e w' ⟨rfl, hw'⟩; replace hw' := hw'.symm; subst hw')
                  refine hws.mono ?_
                  rintro e X ⟨rfl, hD⟩
                  have hTX := hT6.same (hD.like.keeps (Keeps.refl _ _))
                  clear hT6 hws hD
                  go_wp2_with fail
                  refine (log_back a 1000000 (ps ++ qs) Oa2 ps.length X hTX.la (hw.keeps hTX.kp (fun f => f)) (fun q hq => by have := hTX.na q hq; omega) (by simp)).mono ?_
                  rintro e w8 ⟨rfl, ⟨Oa8, h1, h2⟩, h3⟩
                  rw [List.take_left] at h1
                  have hT8 := hTX.stepA h1 (fun q hq => .inl (h2 q hq)) h3
                  have hl8 := log_len a _ _ _ w8 hT8.la
                  have hl8b := log_len b _ _ _ w8 hT8.lb
                  have hm8 := log_mark a _ _ _ w8 hT8.la
                  have hfit := hT8.la.fit
                  clear h1 h2 h3 hTX
                  go_wp2_with (go_at_call 8; refine (num_any _ _).mono ?_; rintro e w' ⟨rfl, hw'⟩; replace hw' := hw'.symm; subst hw')
                  refine hl8.mono ?_
                  rintro e w' ⟨rfl, hw'⟩
                  replace hw' := hw'.symm
                  subst hw'
                  go_wp2_with fail
                  refine hl8b.mono ?_
                  rintro e w' ⟨rfl, hw'⟩
                  replace hw' := hw'.symm
                  subst hw'
                  go_wp2_with fail
                  refine hm8.mono ?_
                  rintro e w' ⟨rfl, hw'⟩
                  replace hw' := hw'.symm
                  subst hw'
                  go_wp2_with fail
                  clear hl8 hl8b hm8
                  go_loopw [22] (fun i wr => ∃ k : Nat, k ≤ (redoE ps).length ∧ i = .int .i64 k ∧ Keeps (fun _ => False) w8 wr) (fun i _ => (redoE ps).length - (intOf i).toNat)
                  case atStart => exact ⟨0, by omega, rfl, Keeps.refl _ _⟩
                  case round =>
                    obtain ⟨k, hk, rfl, hK⟩ := hrel
                    have hT9 := hT8.same hK
                    have hl9 := log_len b _ _ _ wr hT9.lb
                    by_cases hlt : k < (redoE ps).length
                    · obtain ⟨x, y, hxy⟩ : ∃ x y, (redoE ps)[k]? = some (x, y) := ⟨((redoE ps)[k]).1, ((redoE ps)[k]).2, by rw [List.getElem?_eq_getElem hlt]⟩
                      have hix := idxE_of (redoE_nodup ps) hxy
                      have hwx : wordE (redoE ps) x = y := by
                        unfold wordE
                        rw [hix, hxy]
                        rfl
                      have HG : Hid (∀ W, Keeps (fun _ => False) w8 W → Calls Tryd.prog 37 #[.pointer (some ⟨a, 0, none⟩), .int .u64 x] W fun e w' => e = .returned (.tuple #[.int .u64 y, .bool true]) ∧ w' = W) := fun W hkW => by
                        have hg := log_get a _ _ _ x W (hT8.same hkW).la (hw.keeps (hT8.same hkW).kp (fun f => f))
                        rw [hix, if_pos hlt, decide_eq_true hlt, hwx] at hg
                        exact hg
                      have hlt' : (k : Int) < ((redoE ps).length : Int) := by omega
                      have HX : Hid ((redoE ps)[k]? = some (x, y)) := hxy
                      clear hix hwx hxy
                      go_wp2_with (go_at_call 35; refine hl9.mono ?_; rintro e w' ⟨rfl, hw'⟩; replace hw' := hw'.symm; subst hw')
                      refine (log_at a _ _ _ k x y wr hT9.la HX.out).mono ?_
                      rintro e w9 ⟨rfl, hk9⟩
                      have hK9 := hK.trans hk9
                      have hT10 := hT8.same (hK9.alloc (.cells #[.int .u64 x, .int .u64 y] 72))
                      have hKA := hK9.alloc (.cells #[.int .u64 x, .int .u64 y] 72)
                      have hbx := alloc_block w9 (.cells #[.int .u64 x, .int .u64 y] 72)
                      clear hT9 hl9 hk9 hK
                      go_wp2_with fail
                      generalize w9.alloc (.cells #[.int .u64 x, .int .u64 y] 72) = W9 at *
                      refine (log_at b _ _ _ k x y W9 hT10.lb HX.out).mono ?_
                      rintro e w10 ⟨rfl, hk10⟩
                      have hbx10 := hk10.old hbx (fun f => f)
                      have x0 : (w10.alloc (.cells #[.int .u64 x, .int .u64 y] 72)).cell? ⟨w9.heap.size, 0, none⟩ = some (.int .u64 x) := cell_of_block (alloc_old hbx10 _) 0
                      have x1 : (w10.alloc (.cells #[.int .u64 x, .int .u64 y] 72)).cell? ⟨w9.heap.size, 1, none⟩ = some (.int .u64 y) := cell_of_block (alloc_old hbx10 _) 1
                      have hKB := (hKA.trans hk10).alloc (.cells #[.int .u64 x, .int .u64 y] 72)
                      have hget := HG.out _ hKB
                      clear hT10 hbx hk10 HG hbx10
                      go_wp2_with (go_at_call 37; refine hget.mono ?_; rintro e w' ⟨rfl, hw'⟩; replace hw' := hw'.symm; subst hw')
                      go_roundw
                      case rel => exact ⟨k + 1, by omega, by go_num, hKB⟩
                      case measure => simp [intOf]; omega
                    · obtain rfl : k = (redoE ps).length := by omega
                      clear hlt hk
                      have hb0 := log_back a _ _ _ 0 wr hT9.la (hw.keeps hT9.kp (fun f => f)) (fun q hq => by have := hT9.na q hq; omega) (by omega)
                      rw [show ((0 : Nat) : Int) = 0 from rfl, List.take_zero] at hb0
                      go_wp2_with (go_at_call 35; refine hl9.mono ?_; rintro e w' ⟨rfl, hw'⟩; replace hw' := hw'.symm; subst hw')
                      refine hb0.mono ?_
                      rintro e w11 ⟨rfl, ⟨Oa11, h1, h2⟩, h3⟩
                      have hT11 := hT9.stepA h1 (fun q hq => .inl (h2 q hq)) h3
                      have hl11 := log_len a _ _ _ w11 hT11.la
                      rw [show (((redoE []).length : Nat) : Int) = 0 from rfl] at hl11
                      have hwk := hwork w11 hT11.kp
                      have hkp := hT11.kp
                      clear hT11 h1 h2 h3 hT9 hl9 hb0 hT8
                      go_wp2_with (go_at_call 8; refine (num_any _ _).mono ?_; rintro e w' ⟨rfl, hw'⟩; replace hw' := hw'.symm; subst hw')
                      refine hl11.mono ?_
                      rintro e w' ⟨rfl, hw'⟩
                      replace hw' := hw'.symm
                      subst hw'
                      go_wp2_with fail
                      refine hwk.mono ?_
                      rintro e w12 ⟨rfl, hk12⟩
                      go_wp2_with fail
                      go_ret
                      exact ⟨rfl, hkp.trans hk12⟩
                · have hF' : ¬ F = 0 := hF
                  subst hE
                  clear HQ hb6 ha1
                  obtain ⟨X, hX⟩ : ∃ X, X = w6 := ⟨_, rfl⟩
                  subst hX
                  have hTX := hT6
                  clear hT6
                  go_wp2_with (go_at_call 8; refine (num_any _ _).mono ?_; rintro e w' ⟨rfl, hw'⟩; replace hw' := hw'.symm; subst hw')
                  refine (log_back a 1000000 (ps ++ qs) Oa2 ps.length X hTX.la (hw.keeps hTX.kp (fun f => f)) (fun q hq => by have := hTX.na q hq; omega) (by simp)).mono ?_
                  rintro e w8 ⟨rfl, ⟨Oa8, h1, h2⟩, h3⟩
                  rw [List.take_left] at h1
                  have hT8 := hTX.stepA h1 (fun q hq => .inl (h2 q hq)) h3
                  have hl8 := log_len a _ _ _ w8 hT8.la
                  have hl8b := log_len b _ _ _ w8 hT8.lb
                  have hm8 := log_mark a _ _ _ w8 hT8.la
                  have hfit := hT8.la.fit
                  clear h1 h2 h3 hTX
                  go_wp2_with (go_at_call 8; refine (num_any _ _).mono ?_; rintro e w' ⟨rfl, hw'⟩; replace hw' := hw'.symm; subst hw')
                  refine hl8.mono ?_
                  rintro e w' ⟨rfl, hw'⟩
                  replace hw' := hw'.symm
                  subst hw'
                  go_wp2_with fail
                  refine hl8b.mono ?_
                  rintro e w' ⟨rfl, hw'⟩
                  replace hw' := hw'.symm
                  subst hw'
                  go_wp2_with fail
                  refine hm8.mono ?_
                  rintro e w' ⟨rfl, hw'⟩
                  replace hw' := hw'.symm
                  subst hw'
                  go_wp2_with fail
                  clear hl8 hl8b hm8
                  go_loopw [22] (fun i wr => ∃ k : Nat, k ≤ (redoE ps).length ∧ i = .int .i64 k ∧ Keeps (fun _ => False) w8 wr) (fun i _ => (redoE ps).length - (intOf i).toNat)
                  case atStart => exact ⟨0, by omega, rfl, Keeps.refl _ _⟩
                  case round =>
                    obtain ⟨k, hk, rfl, hK⟩ := hrel
                    have hT9 := hT8.same hK
                    have hl9 := log_len b _ _ _ wr hT9.lb
                    by_cases hlt : k < (redoE ps).length
                    · obtain ⟨x, y, hxy⟩ : ∃ x y, (redoE ps)[k]? = some (x, y) := ⟨((redoE ps)[k]).1, ((redoE ps)[k]).2, by rw [List.getElem?_eq_getElem hlt]⟩
                      have hix := idxE_of (redoE_nodup ps) hxy
                      have hwx : wordE (redoE ps) x = y := by
                        unfold wordE
                        rw [hix, hxy]
                        rfl
                      have HG : Hid (∀ W, Keeps (fun _ => False) w8 W → Calls Tryd.prog 37 #[.pointer (some ⟨a, 0, none⟩), .int .u64 x] W fun e w' => e = .returned (.tuple #[.int .u64 y, .bool true]) ∧ w' = W) := fun W hkW => by
                        have hg := log_get a _ _ _ x W (hT8.same hkW).la (hw.keeps (hT8.same hkW).kp (fun f => f))
                        rw [hix, if_pos hlt, decide_eq_true hlt, hwx] at hg
                        exact hg
                      have hlt' : (k : Int) < ((redoE ps).length : Int) := by omega
                      have HX : Hid ((redoE ps)[k]? = some (x, y)) := hxy
                      clear hix hwx hxy
                      go_wp2_with (go_at_call 35; refine hl9.mono ?_; rintro e w' ⟨rfl, hw'⟩; replace hw' := hw'.symm; subst hw')
                      refine (log_at a _ _ _ k x y wr hT9.la HX.out).mono ?_
                      rintro e w9 ⟨rfl, hk9⟩
                      have hK9 := hK.trans hk9
                      have hT10 := hT8.same (hK9.alloc (.cells #[.int .u64 x, .int .u64 y] 72))
                      have hKA := hK9.alloc (.cells #[.int .u64 x, .int .u64 y] 72)
                      have hbx := alloc_block w9 (.cells #[.int .u64 x, .int .u64 y] 72)
                      clear hT9 hl9 hk9 hK
                      go_wp2_with fail
                      generalize w9.alloc (.cells #[.int .u64 x, .int .u64 y] 72) = W9 at *
                      refine (log_at b _ _ _ k x y W9 hT10.lb HX.out).mono ?_
                      rintro e w10 ⟨rfl, hk10⟩
                      have hbx10 := hk10.old hbx (fun f => f)
                      have x0 : (w10.alloc (.cells #[.int .u64 x, .int .u64 y] 72)).cell? ⟨w9.heap.size, 0, none⟩ = some (.int .u64 x) := cell_of_block (alloc_old hbx10 _) 0
                      have x1 : (w10.alloc (.cells #[.int .u64 x, .int .u64 y] 72)).cell? ⟨w9.heap.size, 1, none⟩ = some (.int .u64 y) := cell_of_block (alloc_old hbx10 _) 1
                      have hKB := (hKA.trans hk10).alloc (.cells #[.int .u64 x, .int .u64 y] 72)
                      have hget := HG.out _ hKB
                      clear hT10 hbx hk10 HG hbx10
                      go_wp2_with (go_at_call 37; refine hget.mono ?_; rintro e w' ⟨rfl, hw'⟩; replace hw' := hw'.symm; subst hw')
                      go_roundw
                      case rel => exact ⟨k + 1, by omega, by go_num, hKB⟩
                      case measure => simp [intOf]; omega
                    · obtain rfl : k = (redoE ps).length := by omega
                      clear hlt hk
                      have hb0 := log_back a _ _ _ 0 wr hT9.la (hw.keeps hT9.kp (fun f => f)) (fun q hq => by have := hT9.na q hq; omega) (by omega)
                      rw [show ((0 : Nat) : Int) = 0 from rfl, List.take_zero] at hb0
                      go_wp2_with (go_at_call 35; refine hl9.mono ?_; rintro e w' ⟨rfl, hw'⟩; replace hw' := hw'.symm; subst hw')
                      refine hb0.mono ?_
                      rintro e w11 ⟨rfl, ⟨Oa11, h1, h2⟩, h3⟩
                      have hT11 := hT9.stepA h1 (fun q hq => .inl (h2 q hq)) h3
                      have hl11 := log_len a _ _ _ w11 hT11.la
                      rw [show (((redoE []).length : Nat) : Int) = 0 from rfl] at hl11
                      have hwk := hwork w11 hT11.kp
                      have hkp := hT11.kp
                      clear hT11 h1 h2 h3 hT9 hl9 hb0 hT8
                      go_wp2_with (go_at_call 8; refine (num_any _ _).mono ?_; rintro e w' ⟨rfl, hw'⟩; replace hw' := hw'.symm; subst hw')
                      refine hl11.mono ?_
                      rintro e w' ⟨rfl, hw'⟩
                      replace hw' := hw'.symm
                      subst hw'
                      go_wp2_with fail
                      refine hwk.mono ?_
                      rintro e w12 ⟨rfl, hk12⟩
                      go_wp2_with fail
                      go_ret
                      exact ⟨rfl, hkp.trans hk12⟩
              · have hE' : ¬ E = 0 := hE
                clear HQ hb6 ha1
                obtain ⟨X, hX⟩ : ∃ X, X = w6 := ⟨_, rfl⟩
                subst hX
                have hTX := hT6
                clear hT6
                go_wp2_with (go_at_call 8; refine (num_any _ _).mono ?_; rintro e w' ⟨rfl, hw'⟩; replace hw' := hw'.symm; subst hw')
                refine (log_back a 1000000 (ps ++ qs) Oa2 ps.length X hTX.la (hw.keeps hTX.kp (fun f => f)) (fun q hq => by have := hTX.na q hq; omega) (by simp)).mono ?_
                rintro e w8 ⟨rfl, ⟨Oa8, h1, h2⟩, h3⟩
                rw [List.take_left] at h1
                have hT8 := hTX.stepA h1 (fun q hq => .inl (h2 q hq)) h3
                have hl8 := log_len a _ _ _ w8 hT8.la
                have hl8b := log_len b _ _ _ w8 hT8.lb
                have hm8 := log_mark a _ _ _ w8 hT8.la
                have hfit := hT8.la.fit
                clear h1 h2 h3 hTX
                go_wp2_with (go_at_call 8; refine (num_any _ _).mono ?_; rintro e w' ⟨rfl, hw'⟩; replace hw' := hw'.symm; subst hw')
                refine hl8.mono ?_
                rintro e w' ⟨rfl, hw'⟩
                replace hw' := hw'.symm
                subst hw'
                go_wp2_with fail
                refine hl8b.mono ?_
                rintro e w' ⟨rfl, hw'⟩
                replace hw' := hw'.symm
                subst hw'
                go_wp2_with fail
                refine hm8.mono ?_
                rintro e w' ⟨rfl, hw'⟩
                replace hw' := hw'.symm
                subst hw'
                go_wp2_with fail
                clear hl8 hl8b hm8
                go_loopw [22] (fun i wr => ∃ k : Nat, k ≤ (redoE ps).length ∧ i = .int .i64 k ∧ Keeps (fun _ => False) w8 wr) (fun i _ => (redoE ps).length - (intOf i).toNat)
                case atStart => exact ⟨0, by omega, rfl, Keeps.refl _ _⟩
                case round =>
                  obtain ⟨k, hk, rfl, hK⟩ := hrel
                  have hT9 := hT8.same hK
                  have hl9 := log_len b _ _ _ wr hT9.lb
                  by_cases hlt : k < (redoE ps).length
                  · obtain ⟨x, y, hxy⟩ : ∃ x y, (redoE ps)[k]? = some (x, y) := ⟨((redoE ps)[k]).1, ((redoE ps)[k]).2, by rw [List.getElem?_eq_getElem hlt]⟩
                    have hix := idxE_of (redoE_nodup ps) hxy
                    have hwx : wordE (redoE ps) x = y := by
                      unfold wordE
                      rw [hix, hxy]
                      rfl
                    have HG : Hid (∀ W, Keeps (fun _ => False) w8 W → Calls Tryd.prog 37 #[.pointer (some ⟨a, 0, none⟩), .int .u64 x] W fun e w' => e = .returned (.tuple #[.int .u64 y, .bool true]) ∧ w' = W) := fun W hkW => by
                      have hg := log_get a _ _ _ x W (hT8.same hkW).la (hw.keeps (hT8.same hkW).kp (fun f => f))
                      rw [hix, if_pos hlt, decide_eq_true hlt, hwx] at hg
                      exact hg
                    have hlt' : (k : Int) < ((redoE ps).length : Int) := by omega
                    have HX : Hid ((redoE ps)[k]? = some (x, y)) := hxy
                    clear hix hwx hxy
                    go_wp2_with (go_at_call 35; refine hl9.mono ?_; rintro e w' ⟨rfl, hw'⟩; replace hw' := hw'.symm; subst hw')
                    refine (log_at a _ _ _ k x y wr hT9.la HX.out).mono ?_
                    rintro e w9 ⟨rfl, hk9⟩
                    have hK9 := hK.trans hk9
                    have hT10 := hT8.same (hK9.alloc (.cells #[.int .u64 x, .int .u64 y] 72))
                    have hKA := hK9.alloc (.cells #[.int .u64 x, .int .u64 y] 72)
                    have hbx := alloc_block w9 (.cells #[.int .u64 x, .int .u64 y] 72)
                    clear hT9 hl9 hk9 hK
                    go_wp2_with fail
                    generalize w9.alloc (.cells #[.int .u64 x, .int .u64 y] 72) = W9 at *
                    refine (log_at b _ _ _ k x y W9 hT10.lb HX.out).mono ?_
                    rintro e w10 ⟨rfl, hk10⟩
                    have hbx10 := hk10.old hbx (fun f => f)
                    have x0 : (w10.alloc (.cells #[.int .u64 x, .int .u64 y] 72)).cell? ⟨w9.heap.size, 0, none⟩ = some (.int .u64 x) := cell_of_block (alloc_old hbx10 _) 0
                    have x1 : (w10.alloc (.cells #[.int .u64 x, .int .u64 y] 72)).cell? ⟨w9.heap.size, 1, none⟩ = some (.int .u64 y) := cell_of_block (alloc_old hbx10 _) 1
                    have hKB := (hKA.trans hk10).alloc (.cells #[.int .u64 x, .int .u64 y] 72)
                    have hget := HG.out _ hKB
                    clear hT10 hbx hk10 HG hbx10
                    go_wp2_with (go_at_call 37; refine hget.mono ?_; rintro e w' ⟨rfl, hw'⟩; replace hw' := hw'.symm; subst hw')
                    go_roundw
                    case rel => exact ⟨k + 1, by omega, by go_num, hKB⟩
                    case measure => simp [intOf]; omega
                  · obtain rfl : k = (redoE ps).length := by omega
                    clear hlt hk
                    have hb0 := log_back a _ _ _ 0 wr hT9.la (hw.keeps hT9.kp (fun f => f)) (fun q hq => by have := hT9.na q hq; omega) (by omega)
                    rw [show ((0 : Nat) : Int) = 0 from rfl, List.take_zero] at hb0
                    go_wp2_with (go_at_call 35; refine hl9.mono ?_; rintro e w' ⟨rfl, hw'⟩; replace hw' := hw'.symm; subst hw')
                    refine hb0.mono ?_
                    rintro e w11 ⟨rfl, ⟨Oa11, h1, h2⟩, h3⟩
                    have hT11 := hT9.stepA h1 (fun q hq => .inl (h2 q hq)) h3
                    have hl11 := log_len a _ _ _ w11 hT11.la
                    rw [show (((redoE []).length : Nat) : Int) = 0 from rfl] at hl11
                    have hwk := hwork w11 hT11.kp
                    have hkp := hT11.kp
                    clear hT11 h1 h2 h3 hT9 hl9 hb0 hT8
                    go_wp2_with (go_at_call 8; refine (num_any _ _).mono ?_; rintro e w' ⟨rfl, hw'⟩; replace hw' := hw'.symm; subst hw')
                    refine hl11.mono ?_
                    rintro e w' ⟨rfl, hw'⟩
                    replace hw' := hw'.symm
                    subst hw'
                    go_wp2_with fail
                    refine hwk.mono ?_
                    rintro e w12 ⟨rfl, hk12⟩
                    go_wp2_with fail
                    go_ret
                    exact ⟨rfl, hkp.trans hk12⟩
    · have hlb' : ¬ ((qs.length : Int) ≤ 1000) := by omega
      have hla' : (ps.length : Int) ≤ 1000 := by omega
      have hwk := hwork w3 hT.kp
      have hkp := hT.kp
      clear hT
      go_wp2_with fail
      refine hwk.mono ?_
      rintro e w12 ⟨rfl, hk12⟩
      go_wp2_with fail
      go_ret
      exact ⟨rfl, hkp.trans hk12⟩
  · have hla' : ¬ ((ps.length : Int) ≤ 1000) := by omega
    have hwk := hwork w3 hT.kp
    have hkp := hT.kp
    clear hT
    go_wp2_with fail
    refine hwk.mono ?_
    rintro e w12 ⟨rfl, hk12⟩
    go_wp2_with fail
    go_ret
    exact ⟨rfl, hkp.trans hk12⟩
end Go.Proofs.YtljcojonchfjfaaDoor
