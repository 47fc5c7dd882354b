
/-
  The program's Put at any table that is in order, and what it tells of a table: Len, Slots, Asked. No statement of the seat is proved here.
-/
import Derived.Test.YtmhinalgjfiliaaDoorDoubleI
namespace Go.Proofs.YtmhinalgjfiliaaDoor.I
open Go.RowKit Go.Shelf

section
variable {w w' : World} {b s e0 p : Nat} {K : List (Option Int)} {O : List Int} {bf : Int → Nat} {vf : Int → Value}
theorem Good.like {a : World} (h : Good w b s e0 p K O bf vf) (l : Like a w) : Good a b s e0 p K O bf vf := ⟨l.tab h.tab, h.inv, h.load, h.p3, h.p40, h.many⟩
theorem Good.doubled (h : Good w b s e0 p K O bf vf) (hp : p < 45) {s' : Nat} (hT : TabAt kinds w' b s' e0 (fillN (2 ^ (p + 1)) (homeP (p + 1)) O) O bf vf) : Good w' b s' e0 (p + 1) (fillN (2 ^ (p + 1)) (homeP (p + 1)) O) O bf vf := by
  have hpow : 2 ^ (p + 1) = 2 * 2 ^ p := by rw [Nat.pow_succ]; omega
  have h1 := h.load
  have h3 := h.p3
  have h8 : 8 ≤ 2 ^ p := Nat.pow_le_pow_right (n := 2) (by decide) h3
  exact ⟨hT, Inv.fill (fun k => homeP_lt _ (by omega) k) (by omega) _ O rfl h.tab.nd (by omega), by omega, by omega, by omega, h.many⟩
end

set_option maxHeartbeats 1000000 in
theorem put_grow (b s e0 p : Nat) (K : List (Option Int)) (O : List Int) (bf : Int → Nat) (vf : Int → Value) (k : Int) (v : Int) (w : World) (h : Good w b s e0 p K O bf vf) (hw : Tz w) (hpos : ∀ q, Own b s e0 O bf q → 0 < q) (hk : k ∉ O) (hl : ¬ 4 * (O.length + 1) ≤ 3 * 2 ^ p) (hp : p < 45) (hmo : O.length < 17592186044416) :
    Calls Tryd.prog 51 #[.pointer (some ⟨b, 0, none⟩), .int .u64 k, .int .i64 v] w fun e w' => e = .returned (.tuple #[Value.int .i64 0, .bool false, .int .i64 0]) ∧ ∃ N, w.heap.size ≤ N ∧
      Good w' b (w.heap.size + 1) e0 (p + 1) ((fillN (2 ^ (p + 1)) (homeP (p + 1)) O).set (slotN (2 ^ (p + 1)) (fillN (2 ^ (p + 1)) (homeP (p + 1)) O) (homeP (p + 1) k) k) (some k)) (O ++ [k]) (upd bf k N) (upd vf k (.int .i64 v)) ∧ Keeps (Own b s e0 O bf) w w' := by
  have hm := h.made
  have hf := h.find hw k
  have c0 := h.tab.c0
  have c1 := h.tab.c1
  have hsl := h.slotlt k
  have hcs := h.tab.cs _ hsl
  have hb := h.len
  have hpw := h.pow
  rw [h.inv.slot_out hk] at hcs
  simp only [slotVal] at hcs
  have hKl : Hid (K.length = 2 ^ p) := h.inv.len
  have hload : 4 * ((O.length : Int) + 1) > 3 * (K.length : Int) := by rw [hKl.out]; omega
  have hKb : K.length ≤ 35184372088832 := by rw [hKl.out]; exact hpw
  have hd : ∀ m, Calls Tryd.prog 71 #[.pointer (some ⟨b, 0, none⟩)] (w.drewN m) fun e w' => (∃ v, e = .returned v) ∧
      TabAt kinds w' b (w.heap.size + 1) e0 (fillN (2 ^ (p + 1)) (homeP (p + 1)) O) O bf vf ∧ Keeps (fun k => k = b) w w' := fun m =>
    (double_at b s e0 p K O bf vf (w.drewN m) (h.like (like_drewN w m)) ((like_drewN w m).tz hw) hpos hp).mono fun _ _ ⟨h1, h2, h3⟩ => ⟨h1, h2, ⟨h3.os, h3.tape, h3.output, h3.size, h3.block⟩⟩
  have hfin : ∀ w1, TabAt kinds w1 b (w.heap.size + 1) e0 (fillN (2 ^ (p + 1)) (homeP (p + 1)) O) O bf vf → Keeps (fun k => k = b) w w1 →
      Hid (Good w1 b (w.heap.size + 1) e0 (p + 1) (fillN (2 ^ (p + 1)) (homeP (p + 1)) O) O bf vf ∧ Tz w1 ∧ w.heap.size ≤ w1.heap.size) := fun w1 h1 h2 => ⟨h.doubled hp h1, hw.keeps h2 (fun e => by have := hpos b (.inl rfl); omega), h2.size⟩
  have HK : Hid (k ∉ O) := hk
  have HM : Hid (O.length < 17592186044416) := hmo
  have HL : Hid (4 * (O.length + 1) ≤ 3 * 2 ^ (p + 1)) := by
    have := h.load
    have : 2 ^ (p + 1) = 2 * 2 ^ p := by rw [Nat.pow_succ]; omega
    have h8 : 8 ≤ 2 ^ p := Nat.pow_le_pow_right (n := 2) (by decide) h.p3
    unfold Hid
    omega
  have hsub : ∀ w1 w2, Keeps (fun k => k = b) w w1 → Keeps (Own b (w.heap.size + 1) e0 O bf) w1 w2 → Keeps (Own b s e0 O bf) w w2 := fun w1 w2 h1 h2 =>
    (h1.mono (T := Own b s e0 O bf) (fun q _ e => .inl e)).step h2 (fun q hq e => by
      rcases e with e | e | e | e
      · exact .inl e
      · omega
      · exact .inr (.inr (.inl e))
      · exact .inr (.inr (.inr e)))
  generalize slotN (2 ^ p) K (homeP p k) k = x at *
  generalize lookN (2 ^ p) K (homeP p k) k + 1 = L at *
  clear h hk hl
  go_enter Tryd.func51, Tryd.ntmps51
  go_wp2_with (first | (go_at_call 69; refine hm.mono ?_; rintro e w' ⟨rfl, hw'⟩; replace hw' := hw'.symm; subst hw') | (go_at_call 70; refine hf.mono ?_; rintro e w' ⟨rfl, hw'⟩; replace hw' := hw'.symm; subst hw'))
  go_quiet (fail)
  go_wp2_with fail
  refine (hd _).mono ?_
  rintro e w1 ⟨⟨_, rfl⟩, hT1, hK1⟩
  obtain ⟨hG, hz, hsz⟩ := (hfin w1 hT1 hK1).out
  clear hm hf c0 c1 hsl hcs hd hfin hload hKb hKl hT1
  have hf := hG.find hz k
  have hcome := come_put b _ e0 (p + 1) _ O bf vf k v (slotN (2 ^ (p + 1)) (fillN (2 ^ (p + 1)) (homeP (p + 1)) O) (homeP (p + 1) k) k) w1 hG HK.out (hG.slotlt k)
  have hend := fun x hx w' hT W hW => put_good (v := .int .i64 v) (x := x) (w' := w') hG HK.out HL.out HM.out hx hT W hW
  have c0 := hG.tab.c0
  have hsl := hG.slotlt k
  have hlen : (fillN (2 ^ (p + 1)) (homeP (p + 1)) O).length ≤ 35184372088832 := by rw [hG.inv.len]; exact hG.pow
  have hsz1 : Hid (w.heap.size ≤ w1.heap.size) := hsz
  have hsub1 := fun w2 => hsub w1 w2 hK1
  clear hsub
  generalize hx : slotN (2 ^ (p + 1)) (fillN (2 ^ (p + 1)) (homeP (p + 1)) O) (homeP (p + 1) k) k = x at *
  have HE := hend x rfl
  have HX : Hid (slotN (2 ^ (p + 1)) (fillN (2 ^ (p + 1)) (homeP (p + 1)) O) (homeP (p + 1) k) k = x) := hx
  clear hend hsz hx
  generalize hKK : fillN (2 ^ (p + 1)) (homeP (p + 1)) O = KK at *
  have HKK : Hid (fillN (2 ^ (p + 1)) (homeP (p + 1)) O = KK) := hKK
  generalize hK' : KK.set x (some k) = K' at *
  have HK' : Hid (KK.set x (some k) = K') := hK'
  generalize lookN (2 ^ (p + 1)) KK (homeP (p + 1) k) k + 1 = L' at *
  generalize hBF : upd bf k w1.heap.size = bf' at *
  have HBF : Hid (upd bf k w1.heap.size = bf') := hBF
  generalize hVF : upd vf k (.int .i64 v) = vf' at *
  have HVF : Hid (upd vf k (.int .i64 v) = vf') := hVF
  generalize hO' : O ++ [k] = O' at *
  have HO' : Hid (O ++ [k] = O') := hO'
  clear hKK hG hBF hVF hO' hK'
  go_wp2_with (first | (go_at_call 70; refine hf.mono ?_; rintro e w' ⟨rfl, hw'⟩; replace hw' := hw'.symm; subst hw'))
  go_region_with (go_at_call 72; refine (hcome _ (by exact ⟨rfl, rfl, rfl, rfl⟩)).mono ?_; rintro e w2 ⟨rfl, d0, ⟨u, d1⟩, d2, hT⟩)
  all_goals go_wp2_with fail
  all_goals go_ret3
  all_goals
    obtain ⟨g1, g2⟩ := HE _ hT _ ⟨rfl, rfl, rfl, rfl⟩
    refine ⟨rfl, w1.heap.size, hsz1.out, ?_, hsub1 _ g2⟩
    rw [HKK.out, HX.out, HK'.out, HO'.out, HVF.out, HBF.out]
    exact g1

/-- Put, at any table that is in order and not too great. -/
theorem put_at (b s e0 p : Nat) (K : List (Option Int)) (O : List Int) (bf : Int → Nat) (vf : Int → Value) (k : Int) (v : Int) (w : World) (h : Good w b s e0 p K O bf vf) (hw : Tz w) (hpos : ∀ q, Own b s e0 O bf q → 0 < q) (hO : O.length < 17592186044416) :
    Calls Tryd.prog 51 #[.pointer (some ⟨b, 0, none⟩), .int .u64 k, .int .i64 v] w fun e w' => e = .returned (.tuple #[if k ∈ O then vf k else Value.int .i64 0, .bool (decide (k ∈ O)), .int .i64 0]) ∧ ∃ s' bf',
      Good w' b s' e0 (putP p K O k).1 (putP p K O k).2 (putO O k) bf' (upd vf k (.int .i64 v)) ∧ Keeps (Own b s e0 O bf) w w' ∧ ∀ q, Own b s' e0 (putO O k) bf' q → Own b s e0 O bf q ∨ w.heap.size ≤ q := by
  unfold putP putO
  by_cases hk : k ∈ O
  · simp only [if_pos hk, decide_eq_true hk]
    exact (put_in b s e0 p K O bf vf k v w h hw hk).mono fun _ _ ⟨h1, h2, h3⟩ => ⟨h1, s, bf, h2, h3, fun q hq => .inl hq⟩
  · simp only [if_neg hk, decide_eq_false hk]
    have hown : ∀ (s' N : Nat), (s' = s ∨ w.heap.size ≤ s') → w.heap.size ≤ N → ∀ q, Own b s' e0 (O ++ [k]) (upd bf k N) q → Own b s e0 O bf q ∨ w.heap.size ≤ q := by
      rintro s' N hs hN q (rfl | rfl | rfl | ⟨r, hr, rfl⟩)
      · exact .inl (.inl rfl)
      · rcases hs with rfl | hs
        · exact .inl (.inr (.inl rfl))
        · exact .inr hs
      · exact .inl (.inr (.inr (.inl rfl)))
      · rw [List.mem_append, List.mem_singleton] at hr
        by_cases e : r = k
        · subst e; rw [upd_same]; exact .inr hN
        · rw [upd_other _ _ e]
          exact .inl (.inr (.inr (.inr ⟨r, by rcases hr with hr | hr; exact hr; exact absurd hr e, rfl⟩)))
    by_cases hl : 4 * (O.length + 1) ≤ 3 * 2 ^ p
    · simp only [if_pos hl]
      exact (put_out b s e0 p K O bf vf k v w h hw hk hl hO).mono fun _ _ ⟨h1, h2, h3⟩ => ⟨h1, s, _, h2, h3, hown s _ (.inl rfl) (Nat.le_refl _)⟩
    · simp only [if_neg hl]
      have hp : p < 45 := by
        apply Classical.byContradiction
        intro hc
        have : 2 ^ 45 ≤ 2 ^ p := Nat.pow_le_pow_right (by decide) (by omega)
        omega
      exact (put_grow b s e0 p K O bf vf k v w h hw hpos hk hl hp hO).mono fun _ _ ⟨h1, N, h2, h3, h4⟩ => ⟨h1, _, _, h3, h4, hown _ N (.inr (by omega)) h2⟩
end Go.Proofs.YtmhinalgjfiliaaDoor.I
