/-
  A row of the program's beside one of the document's with the same words and accesses; walks of the law's differs and tells. No statement of the seat is proved here.
-/
import Derived.Test.YtmffkcbdgpaieaaPlayF
namespace Go.Proofs.Ytmffkcbdgpaieaa
open Go.RowKit

/-- Two rows alike, in four blocks. -/
structure Alike (W : World) (b c d f cap : Nat) (rest : List Value) (ws : List Int) (n : Int) : Prop where
  row : RowAt W 74 36 b c ws n
  ref : RefAt W d f cap rest ws n
  wf : Wf ws
  bd : b ≠ d
  bf : b ≠ f
  cd : c ≠ d
  cf : c ≠ f

/-- Two rows alike in blocks of F, or none. -/
def Both (W : World) (p q : Option Addr) (F : Nat → Prop) : Prop :=
  (p = none ∧ q = none) ∨ ∃ b c d f cap rest ws n, p = some ⟨b, 0, none⟩ ∧ q = some ⟨d, 0, none⟩ ∧ Alike W b c d f cap rest ws n ∧ F b ∧ F c ∧ F d ∧ F f

theorem Alike.kept {S : Nat → Prop} {W W' : World} {b c d f cap : Nat} {rest : List Value} {ws : List Int} {n : Int} (h : Alike W b c d f cap rest ws n) (k : Keeps S W W') (hb : ¬ S b) (hc : ¬ S c) (hd : ¬ S d) (hf : ¬ S f) : Alike W' b c d f cap rest ws n :=
  ⟨h.row.kept k hb hc, h.ref.kept k hd hf, h.wf, h.bd, h.bf, h.cd, h.cf⟩
theorem Both.kept {S F : Nat → Prop} {W W' : World} {p q : Option Addr} (h : Both W p q F) (k : Keeps S W W') (hS : ∀ x, F x → ¬ S x) : Both W' p q F := by
  rcases h with h | ⟨b, c, d, f, cap, rest, ws, n, h1, h2, h3, hb, hc, hd, hf⟩
  · exact .inl h
  · exact .inr ⟨b, c, d, f, cap, rest, ws, n, h1, h2, h3.kept k (hS b hb) (hS c hc) (hS d hd) (hS f hf), hb, hc, hd, hf⟩
theorem Both.mono {F G : Nat → Prop} {W : World} {p q : Option Addr} (h : Both W p q F) (hFG : ∀ x, F x → G x) : Both W p q G := by
  rcases h with h | ⟨b, c, d, f, cap, rest, ws, n, h1, h2, h3, hb, hc, hd, hf⟩
  · exact .inl h
  · exact .inr ⟨b, c, d, f, cap, rest, ws, n, h1, h2, h3, hFG _ hb, hFG _ hc, hFG _ hd, hFG _ hf⟩

theorem Keeps.blk {S : Nat → Prop} {w w' : World} {g : Nat} {o : Obj} (k : Keeps S w w') (h : w.heap[g]? = some o) (hS : ¬ S g) : w'.heap[g]? = some o := (k.block g (lt_of_block h) hS).trans h
theorem pairs_nil (w : World) (sp : Option Addr) : Pairs w sp [] := fun i h => absurd h (by simp)
theorem Keeps.ofDrew {S : Nat → Prop} {w w' : World} (h : Drew w w') : Keeps S w w' := by
  obtain ⟨m, rfl⟩ := h
  exact (Keeps.refl _ w).drewN m

set_option maxHeartbeats 400000 in
theorem differs_none1 (p2 q2 : Option Addr) (w : World) : Calls Try.prog 18 #[.pointer none, .pointer p2, .pointer none, .pointer q2] w fun e w' => e = .returned (.bool true) ∧ Keeps (fun _ => False) w w' := by
  go_enter Try.func18, Try.ntmps18
  go_wp2_with fail
  refine (differ_none1 none _ _ (.inl rfl)).mono ?_
  rintro e w1 ⟨rfl, hw⟩
  subst hw
  go_wp2_with fail
  refine (rdiffer_nil1 _ _).mono ?_
  rintro e w2 ⟨rfl, hw⟩
  subst hw
  go_wp2_with fail
  refine (num_any _ _).mono ?_
  rintro e w3 ⟨rfl, hw⟩
  subst hw
  go_wp2_with fail
  refine (sameCells_eq none none 0 0 0 [] _ rfl (by omega) (pairs_nil _ _) (pairs_nil _ _)).mono ?_
  rintro e w4 ⟨rfl, hd⟩
  have k4 : Keeps (fun _ => False) w3 w4 := Keeps.ofDrew hd
  clear hd
  go_wp2_with fail
  refine (same_none1 none _ _ (.inl rfl)).mono ?_
  rintro e w5 ⟨rfl, k5⟩
  go_wp2_with fail
  go_ret
  exact ⟨rfl, k4.trans k5⟩

set_option maxHeartbeats 400000 in
theorem differs_none2 (b c d : Nat) (ws : List Int) (n : Int) (w : World) (h : RowAt w 74 36 b c ws n) : Calls Try.prog 18 #[.pointer (some ⟨b, 0, none⟩), .pointer none, .pointer (some ⟨d, 0, none⟩), .pointer none] w fun e w' => e = .returned (.bool true) ∧ Keeps (fun _ => False) w w' := by
  go_enter Try.func18, Try.ntmps18
  go_wp2_with fail
  refine (differ_none2 b c ws n _ h).mono ?_
  rintro e w1 ⟨rfl, hw⟩
  subst hw
  go_wp2_with fail
  refine (rdiffer_nil2 _ _).mono ?_
  rintro e w2 ⟨rfl, hw⟩
  subst hw
  go_wp2_with fail
  refine (num_any _ _).mono ?_
  rintro e w3 ⟨rfl, hw⟩
  subst hw
  go_wp2_with fail
  refine (sameCells_eq none none 0 0 0 [] _ rfl (by omega) (pairs_nil _ _) (pairs_nil _ _)).mono ?_
  rintro e w4 ⟨rfl, hd⟩
  have k4 : Keeps (fun _ => False) w3 w4 := Keeps.ofDrew hd
  have h4 := h.kept k4 (fun f => f) (fun f => f)
  clear hd
  go_wp2_with fail
  refine (same_none2 b c ws n _ h4).mono ?_
  rintro e w5 ⟨rfl, k5⟩
  go_wp2_with fail
  go_ret
  exact ⟨rfl, k4.trans (Keeps.of_below k5 _)⟩

set_option maxHeartbeats 400000 in
theorem differs_len (ba ca bb cb : Nat) (wa wb : List Int) (na nb : Int) (da fa db fb capa capb : Nat) (ra rb : List Value) (w : World) (ha : RowAt w 74 36 ba ca wa na) (hb : RowAt w 74 36 bb cb wb nb) (ka : RefAt w da fa capa ra wa na) (kb : RefAt w db fb capb rb wb nb) (hl : ¬ wb.length = wa.length) :
    Calls Try.prog 18 #[.pointer (some ⟨ba, 0, none⟩), .pointer (some ⟨bb, 0, none⟩), .pointer (some ⟨da, 0, none⟩), .pointer (some ⟨db, 0, none⟩)] w fun e w' => e = .returned (.bool true) ∧ Keeps (fun _ => False) w w' := by
  have HL : Hid (¬ wb.length = wa.length) := hl
  clear hl
  go_enter Try.func18, Try.ntmps18
  go_wp2_with fail
  refine (differ_len ba ca bb cb wa wb na nb _ ha hb HL.out).mono ?_
  rintro e w1 ⟨rfl, hw⟩
  subst hw
  go_wp2_with fail
  refine (rdiffer_len da fa db fb capa capb ra rb wa wb na nb _ ka kb HL.out).mono ?_
  rintro e w2 ⟨rfl, hd⟩
  have k2 : Keeps (fun _ => False) w1 w2 := Keeps.ofDrew hd
  clear hd
  go_wp2_with fail
  refine (num_any _ _).mono ?_
  rintro e w3 ⟨rfl, hw⟩
  subst hw
  go_wp2_with fail
  refine (sameCells_eq none none 0 0 0 [] _ rfl (by omega) (pairs_nil _ _) (pairs_nil _ _)).mono ?_
  rintro e w4 ⟨rfl, hd⟩
  have k4 : Keeps (fun _ => False) w1 w4 := k2.trans (Keeps.ofDrew hd)
  clear hd k2
  go_wp2_with fail
  refine (same_as ba ca bb cb wa wb na nb false (by simp; intro e; exact HL.out (by rw [e])) _ (ha.kept k4 (fun f => f) (fun f => f)) (hb.kept k4 (fun f => f) (fun f => f))).mono ?_
  rintro e w5 ⟨rfl, k5⟩
  go_wp2_with fail
  go_ret
  exact ⟨rfl, k4.trans (Keeps.of_below k5 _)⟩

set_option maxHeartbeats 400000 in
theorem differs_eq (ba ca bb cb : Nat) (wa wb : List Int) (na nb : Int) (da fa db fb capa capb : Nat) (ra rb : List Value) (w : World) (ha : RowAt w 74 36 ba ca wa na) (hb : RowAt w 74 36 bb cb wb nb) (ka : RefAt w da fa capa ra wa na) (kb : RefAt w db fb capb rb wb nb) (hl : wb.length = wa.length) :
    Calls Try.prog 18 #[.pointer (some ⟨ba, 0, none⟩), .pointer (some ⟨bb, 0, none⟩), .pointer (some ⟨da, 0, none⟩), .pointer (some ⟨db, 0, none⟩)] w fun e w' => e = .returned (.bool true) ∧ Keeps (fun _ => False) w w' := by
  have HL : Hid (wb.length = wa.length) := hl
  have hle := hb.le
  have hdl := dl_length wa wb wb.length
  have he := dl_empty hl
  clear hl
  go_enter Try.func18, Try.ntmps18
  go_wp2_with fail
  refine (differ_eq ba ca bb cb wa wb na nb _ ha hb HL.out).mono ?_
  rintro e w1 ⟨v1, rfl, ho1, kb1⟩
  have k1 : Keeps (fun _ => False) w w1 := Keeps.of_below kb1 _
  obtain ⟨s1, c1, rfl, hp1, hb1⟩ := pairs_own ho1
  clear ho1 kb1
  go_wp2_with fail
  refine (rdiffer_eq da fa db fb capa capb ra rb wa wb na nb _ (ka.kept k1 (fun f => f) (fun f => f)) (kb.kept k1 (fun f => f) (fun f => f)) HL.out).mono ?_
  rintro e w2 ⟨v2, rfl, ho2, k2⟩
  obtain ⟨s2, c2, rfl, hp2, hb2⟩ := pairs_own ho2
  replace hp1 := hp1.kept k2 (fun _ _ _ _ f => f)
  have k3 := k1.trans k2
  clear ho2 hb1 hb2 k1 k2
  obtain ⟨m, hm⟩ : ∃ m, (dl wa wb wb.length).length = m := ⟨_, rfl⟩
  have hlen : (asInts (dl wa wb wb.length)).length = m := by simp [asInts, hm]
  have hdec : decide (wa = wb) = ((m : Int) == 0) := by
    rw [Bool.eq_iff_iff]
    simp
    rw [← he, ← hm]
    simp
  rw [hm]
  generalize asInts (dl wa wb wb.length) = L at hp1 hp2 hlen
  have hm2 : m ≤ 65536 := by omega
  have HLN : Hid (L.length = m) := hlen
  have HD : Hid (decide (wa = wb) = ((m : Int) == 0)) := hdec
  clear hlen hdec hm he hdl
  go_wp2_with fail
  refine (num_any _ _).mono ?_
  rintro e w3 ⟨rfl, hw⟩
  subst hw
  go_wp2_with fail
  refine (sameCells_eq s1 s2 m c1 c2 L _ HLN.out hm2 hp1 hp2).mono ?_
  rintro e w4 ⟨rfl, hd⟩
  have k4 : Keeps (fun _ => False) w w4 := k3.trans (Keeps.ofDrew hd)
  clear hd hp1 hp2
  go_wp2_with fail
  refine (same_as ba ca bb cb wa wb na nb _ HD.out _ (ha.kept k4 (fun f => f) (fun f => f)) (hb.kept k4 (fun f => f) (fun f => f))).mono ?_
  rintro e w5 ⟨rfl, k5⟩
  go_wp2_with fail
  go_ret
  exact ⟨by simp, k4.trans (Keeps.of_below k5 _)⟩

theorem differs_any (p1 q1 p2 q2 : Option Addr) (F G : Nat → Prop) (w : World) (h1 : Both w p1 q1 F) (h2 : Both w p2 q2 G) :
    Calls Try.prog 18 #[.pointer p1, .pointer p2, .pointer q1, .pointer q2] w fun e w' => e = .returned (.bool true) ∧ Keeps (fun _ => False) w w' := by
  rcases h1 with ⟨rfl, rfl⟩ | ⟨b, c, d, f, cap, rest, ws, n, rfl, rfl, ha, _⟩
  · exact differs_none1 p2 q2 w
  rcases h2 with ⟨rfl, rfl⟩ | ⟨b2, c2, d2, f2, cap2, rest2, ws2, n2, rfl, rfl, hb, _⟩
  · exact differs_none2 b c d ws n w ha.row
  by_cases hl : ws2.length = ws.length
  · exact differs_eq b c b2 c2 ws ws2 n n2 d f d2 f2 cap cap2 rest rest2 w ha.row hb.row ha.ref hb.ref hl
  · exact differs_len b c b2 c2 ws ws2 n n2 d f d2 f2 cap cap2 rest rest2 w ha.row hb.row ha.ref hb.ref hl

set_option maxHeartbeats 400000 in
theorem tells_none (a : Int) (ha : 0 ≤ a) (w : World) : Calls Try.prog 20 #[.pointer none, .pointer none, .int .u64 a] w fun e w' => e = .returned (.bool true) ∧ Keeps (fun _ => False) w w' := by
  go_enter Try.func20, Try.ntmps20
  go_wp2_with fail
  refine (words_none none _ (.inl rfl)).mono ?_
  rintro e w1 ⟨rfl, hw⟩
  subst hw
  go_wp2_with fail
  refine (words_none none _ (.inl rfl)).mono ?_
  rintro e w2 ⟨rfl, hw⟩
  subst hw
  go_wp2_with fail
  refine (rwords_nil _).mono ?_
  rintro e w3 ⟨rfl, hw⟩
  subst hw
  go_wp2_with fail
  refine (sameWords_eq none none 0 0 0 [] _ rfl (by omega) (Reads.nil _ _) (Reads.nil _ _)).mono ?_
  rintro e w4 ⟨rfl, hd⟩
  have k4 : Keeps (fun _ => False) w3 w4 := Keeps.ofDrew hd
  clear hd
  go_wp2_with fail
  refine (rwords_nil _).mono ?_
  rintro e w5 ⟨rfl, hw⟩
  subst hw
  go_wp2_with fail
  refine (sameWords_eq none none 0 0 0 [] _ rfl (by omega) (Reads.nil _ _) (Reads.nil _ _)).mono ?_
  rintro e w6 ⟨rfl, hd⟩
  have k6 : Keeps (fun _ => False) w3 w6 := k4.trans (Keeps.ofDrew hd)
  clear hd k4
  go_wp2_with fail
  refine (spoil_any none 0 w6.heap.size _ (by omega) (fun h => absurd h (by omega))).mono ?_
  rintro e w7 ⟨rfl, k7⟩
  replace k7 := k6.trans (k7.mono (T := fun _ => False) (fun x hx e => by omega))
  clear k6
  go_wp2_with fail
  refine (rwords_nil _).mono ?_
  rintro e w8 ⟨rfl, hw⟩
  subst hw
  go_wp2_with fail
  refine (sameWords_eq none none 0 0 0 [] _ rfl (by omega) (Reads.nil _ _) (Reads.nil _ _)).mono ?_
  rintro e w9 ⟨rfl, hd⟩
  have k9 : Keeps (fun _ => False) w3 w9 := k7.trans (Keeps.ofDrew hd)
  clear hd k7
  go_wp2_with (first
    | (go_at_call 35; refine (len_nil _).mono ?_; rintro e w' ⟨rfl, hw'⟩; subst hw')
    | (go_at_call 23; refine (rlen_nil _).mono ?_; rintro e w' ⟨rfl, hw'⟩; subst hw')
    | (go_at_call 49; refine (has_nil a ha _).mono ?_; rintro e w' ⟨rfl, hw'⟩; subst hw')
    | (go_at_call 50; refine (rhas_nil a ha _).mono ?_; rintro e w' ⟨rfl, hw'⟩; subst hw')
    | (go_at_call 33; refine (sum_none none _ (.inl rfl)).mono ?_; rintro e w' ⟨rfl, hw'⟩; subst hw')
    | (go_at_call 51; refine (rsum_nil _).mono ?_; rintro e w' ⟨rfl, hw'⟩; subst hw')
    | (go_at_call 27; refine (accesses_nil _).mono ?_; rintro e w' ⟨rfl, hw'⟩; subst hw')
    | (go_at_call 28; refine (racc_nil _).mono ?_; rintro e w' ⟨rfl, hw'⟩; subst hw'))
  go_ret
  exact ⟨rfl, k9⟩

set_option maxHeartbeats 1000000 in
theorem tells_at (b c d f cap : Nat) (rest : List Value) (ws : List Int) (n a : Int) (w : World) (h : Alike w b c d f cap rest ws n) : Calls Try.prog 20 #[.pointer (some ⟨b, 0, none⟩), .pointer (some ⟨d, 0, none⟩), .int .u64 a] w fun e w' => e = .returned (.bool true) ∧ Keeps (fun _ => False) w w' := by
  have hle := h.row.le
  have hle8 : ws.length * 8 ≤ 140737488351232 := by omega
  have hle9 : ws.length * 8 ≤ 140737488355328 := by omega
  go_enter Try.func20, Try.ntmps20
  go_wp2_with fail
  refine (words_at b c ws n _ h.row).mono ?_
  rintro e w1 ⟨rfl, b1, z1, k1⟩
  have l1 := lt_of_block b1
  have h1 := h.kept k1 (fun f => f) (fun f => f) (fun f => f) (fun f => f)
  have Z1 : Hid (w1.heap.size = w.heap.size + 1) := z1
  have B1 : Hid _ := b1
  clear z1 b1
  go_wp2_with fail
  refine (words_at b c ws n _ h1.row).mono ?_
  rintro e w2 ⟨rfl, b2, z2, k2⟩
  have h2 := h1.kept k2 (fun f => f) (fun f => f) (fun f => f) (fun f => f)
  have B2 : Hid _ := b2
  have B12 : Hid _ := (k2.block _ l1 (fun f => f)).trans B1.out
  have L12 : Hid (w.heap.size ≠ w1.heap.size) := fun e => by omega
  have k3 := k1.trans k2
  clear z2 b2 B1 k1 k2 h1
  obtain ⟨ga, hga⟩ : ∃ g, g = w.heap.size := ⟨_, rfl⟩
  obtain ⟨gb, hgb⟩ : ∃ g, g = w1.heap.size := ⟨_, rfl⟩
  rw [← hga] at L12 B12
  rw [← hgb] at L12 B2
  rw [← hga, ← hgb]
  have HGA : Hid (ga = w.heap.size) := hga
  clear hga hgb
  have c0 := h2.ref.cell0
  go_wp2_with fail
  refine (rwords_at d _ _ _ _ c0).mono ?_
  rintro e w3 ⟨rfl, hw⟩
  subst hw
  go_wp2_with fail
  refine (sameWords_eq _ _ ws.length _ _ ws _ rfl hle9 (Reads.block B12.out) h2.ref.reads).mono ?_
  rintro e w4 ⟨rfl, hd⟩
  have k4 : Keeps (fun _ => False) w3 w4 := Keeps.ofDrew hd
  have h4 := h2.kept k4 (fun f => f) (fun f => f) (fun f => f) (fun f => f)
  have B42 : Hid _ := k4.blk B2.out (fun f => f)
  have B412 : Hid _ := k4.blk B12.out (fun f => f)
  have c4 := h4.ref.cell0
  replace k4 := k3.trans k4
  clear hd B2 B12 h2 k3 c0
  go_wp2_with fail
  refine (rwords_at d _ _ _ _ c4).mono ?_
  rintro e w5 ⟨rfl, hw⟩
  subst hw
  go_wp2_with fail
  refine (sameWords_eq _ _ ws.length _ _ ws _ rfl hle9 (Reads.block B42.out) h4.ref.reads).mono ?_
  rintro e w6 ⟨rfl, hd⟩
  have k6 : Keeps (fun _ => False) w5 w6 := Keeps.ofDrew hd
  have h6 := h4.kept k6 (fun f => f) (fun f => f) (fun f => f) (fun f => f)
  have B62 : Hid _ := k6.blk B42.out (fun f => f)
  have B612 : Hid _ := k6.blk B412.out (fun f => f)
  replace k6 := k4.trans k6
  clear hd B42 B412 h4 k4 c4
  go_wp2_with fail
  refine (spoil_any _ ws.length ga _ hle8 (fun _ => ⟨_, rfl, B612.out, by rw [u64s_size]; exact Nat.le_refl _⟩)).mono ?_
  rintro e w7 ⟨rfl, k7⟩
  have lb := h.row.ltb
  have lc := h.row.ltc
  have ld := h.ref.ltb
  have lf := h.ref.ltc
  have h7 := h6.kept k7 (fun e => by have := HGA.out; omega) (fun e => by have := HGA.out; omega) (fun e => by have := HGA.out; omega) (fun e => by have := HGA.out; omega)
  have B72 : Hid _ := k7.blk B62.out (fun e => L12.out e.symm)
  have k8 : Keeps (fun _ => False) w w7 := (Keeps.trans (k6.mono (T := fun k => k = ga) (fun _ _ f => f.elim)) k7).mono (fun x hx e => by have := HGA.out; omega)
  have c7 := h7.ref.cell0
  clear k7 k6 h6 B62 B612
  go_wp2_with fail
  refine (rwords_at d _ _ _ _ c7).mono ?_
  rintro e w8 ⟨rfl, hw⟩
  subst hw
  go_wp2_with fail
  refine (sameWords_eq _ _ ws.length _ _ ws _ rfl hle9 (Reads.block B72.out) h7.ref.reads).mono ?_
  rintro e w9 ⟨rfl, hd⟩
  have k9 : Keeps (fun _ => False) w8 w9 := Keeps.ofDrew hd
  have h9 := h7.kept k9 (fun f => f) (fun f => f) (fun f => f) (fun f => f)
  replace k9 := k8.trans k9
  have rc0 := h9.row.cell0
  have rc1 := h9.row.cell1
  have fc0 := h9.ref.cell0
  have fc1 := h9.ref.cell1
  have hs1 := sum_at b c ws n w9 h9.row h9.wf
  have hs2 := rsum_at d f cap rest ws n w9 h9.ref h9.wf
  generalize sumTo ws ws.length = S at hs1 hs2
  clear hd k8 h7 c7 B72 h9
  go_wp2_with (first
    | (go_at_call 35; refine (len_at b _ _ _ _ rc0).mono ?_; rintro e w' ⟨rfl, hw'⟩; subst hw')
    | (go_at_call 23; refine (rlen_at d _ _ _ _ fc0).mono ?_; rintro e w' ⟨rfl, hw'⟩; subst hw')
    | (go_at_call 49; refine (has_at a b _ _ _ hle _ rc0).mono ?_; rintro e w' ⟨rfl, hw'⟩; subst hw')
    | (go_at_call 50; refine (rhas_at a d _ _ _ hle _ fc0).mono ?_; rintro e w' ⟨rfl, hw'⟩; subst hw')
    | (go_at_call 33; refine hs1.mono ?_; rintro e w' ⟨rfl, hw'⟩; subst hw')
    | (go_at_call 51; refine hs2.mono ?_; rintro e w' ⟨rfl, hw'⟩; subst hw')
    | (go_at_call 27; refine (accesses_at b n _ rc1).mono ?_; rintro e w' ⟨rfl, hw'⟩; subst hw')
    | (go_at_call 28; refine (racc_at d n _ fc1).mono ?_; rintro e w' ⟨rfl, hw'⟩; subst hw'))
  go_ret
  exact ⟨by simp, k9⟩

theorem tells_any (p q : Option Addr) (F : Nat → Prop) (a : Int) (ha : 0 ≤ a) (w : World) (h : Both w p q F) : Calls Try.prog 20 #[.pointer p, .pointer q, .int .u64 a] w fun e w' => e = .returned (.bool true) ∧ Keeps (fun _ => False) w w' := by
  rcases h with ⟨rfl, rfl⟩ | ⟨b, c, d, f, cap, rest, ws, n, rfl, rfl, h, _⟩
  · exact tells_none a ha w
  · exact tells_at b c d f cap rest ws n a w h

end Go.Proofs.Ytmffkcbdgpaieaa
