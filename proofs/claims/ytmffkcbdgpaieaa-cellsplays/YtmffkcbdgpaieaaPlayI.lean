/-
  The walk of the law's parts at a Fill. No statement of the seat is proved here.
-/
import Derived.Test.YtmffkcbdgpaieaaPlayH
namespace Go.Proofs.Ytmffkcbdgpaieaa
open Go.RowKit

section
variable (who to lv ad wd od bh : Int) (sp : Option Addr) (l sc : Nat)

theorem Lent.drew {w : World} {g cap : Nat} {ws : List Int} (h : Lent w g cap ws) : Lent w.drew g cap ws := ⟨h.block, h.room, h.cap⟩
theorem Lent.writes {w : World} {g cap : Nat} {ws : List Int} (h : Lent w g cap ws) {l : Nat} (hl : ws.length = l) : Writes w (some ⟨g, 0, none⟩) l g := fun _ => by
  obtain ⟨cur, h1, h2, _⟩ := h.block
  have := h.room
  exact ⟨cur, rfl, h1, by omega⟩
theorem Reads.keptS {w w' : World} {sp : Option Addr} {ws : List Int} {S : Nat → Prop} (h : Reads w sp ws) (k : Keeps S w w') (hS : 0 < ws.length → ∀ x, sp = some x → ¬ S x.block) : Reads w' sp ws := fun i hi => by
  obtain ⟨a, rfl, h1⟩ := h i hi
  have hb := hS (by omega) a rfl
  have e : (a.add i).block = a.block := by unfold Addr.add; split <;> rfl
  exact ⟨a, rfl, (World.cell?_of_block (w := w) (k.block _ (World.block_lt_of_cell? _ _ h1) (by rw [e]; exact hb))).trans h1⟩

set_option maxRecDepth 100000 in
set_option maxHeartbeats 1000000 in
theorem parts5_none (kd : Int) (hk : kd = 5) (vs : List Int) (w : World) (hn : vs.length = l) (hr : Reads w sp vs) (h0 : sp = none → sc = 0) (hb : l * 8 ≤ 140737488351232) : Calls Try.prog 45 #[.pointer none, .pointer none, .agg #[.int .i64 kd, .int .i64 who, .int .i64 to, .int .i64 lv, .int .u64 ad, .int .u64 wd, .int .u64 od, .int .u64 bh, .slice sp l sc]] w fun e w' => e = .returned (.bool true) ∧ Keeps (fun _ => False) w w' := by
  subst hk
  have k0 : Keeps (fun _ => False) w (w.alloc (.cells #[.int .i64 5, .int .i64 who, .int .i64 to, .int .i64 lv, .int .u64 ad, .int .u64 wd, .int .u64 od, .int .u64 bh, .slice sp l sc] 40)) := (Keeps.refl _ w).alloc _
  have hbx := alloc_block w (.cells #[.int .i64 5, .int .i64 who, .int .i64 to, .int .i64 lv, .int .u64 ad, .int .u64 wd, .int .u64 od, .int .u64 bh, .slice sp l sc] 40)
  have HN : Hid (vs.length = l) := hn
  have H0 : Hid (sp = none → sc = 0) := h0
  have HB : Hid (l * 8 ≤ 140737488351232) := hb
  have hl : (l : Int) ≤ 17592186043904 := by omega
  clear hn h0 hb
  go_enter Try.func45, Try.ntmps45
  go_wp2_with fail
  refine (lent_any sp l sc vs _ HN.out (hr.kept k0) H0.out HB.out).mono ?_
  generalize w.alloc (.cells #[.int .i64 5, .int .i64 who, .int .i64 to, .int .i64 lv, .int .u64 ad, .int .u64 wd, .int .u64 od, .int .u64 bh, .slice sp l sc] 40) = W0 at k0 hbx ⊢
  rintro e w1 ⟨g, gcap, rfl, hg, hL, k1⟩
  have hz := k0.size
  have hb1 := k1.blk hbx (fun f => f)
  have q4 : w1.cell? ⟨w.heap.size, 4, none⟩ = some (.int .u64 ad) := cell_of_block hb1 4
  have q8 : w1.cell? ⟨w.heap.size, 8, none⟩ = some (.slice sp l sc) := cell_of_block hb1 8
  have hr1 := (hr.kept k0).kept k1
  have hlc : (l : Int) ≤ (gcap : Int) := by have := hL.room; have := HN.out; omega
  have hcap : (gcap : Int) ≤ 9223372036854775807 := by have := hL.cap; simp only [maxLen] at this; omega
  replace k1 := k0.trans k1
  have hsp := hL.writes HN.out
  clear hb1 hbx k0
  go_wp2
  go_region_held3 (fun w' => w'.cell? ⟨w.heap.size, 4, none⟩ = some (.int .u64 ad) ∧ w'.cell? ⟨w.heap.size, 8, none⟩ = some (.slice sp l sc)) (first | go_keep | (exact ⟨q4, q8⟩))
    ((first
      | (go_at_call 57; refine (fill_none none _ _ _ (.inl rfl)).mono ?_; rintro e w' ⟨rfl, hw'⟩; subst hw')
      | (go_at_call 13; refine (num_any _ _).mono ?_; rintro e w' ⟨rfl, hw'⟩; subst hw')
      | (go_at_call 58; refine (rfill_nil _ _ _).mono ?_; rintro e w' ⟨rfl, hw'⟩; subst hw')
      | (go_at_call 14; refine (left_any g gcap sp l sc vs _ HN.out HB.out (by exact hL.drew) (by exact hr1)).mono ?_; rintro e w' ⟨rfl, m, hw'⟩; subst hw')))
  go_wp2_with fail
  refine (spoil_any _ _ g _ HB.out (by exact hsp)).mono ?_
  rintro e w7 ⟨rfl, k7⟩
  have k8 : Keeps (fun _ => False) w w7 := (((k1.drewN (1 + m)).mono (T := fun k => k = g) (fun _ _ f => f.elim)).trans k7).mono (fun x hx e => by omega)
  go_wp2_with fail
  go_ret
  exact ⟨rfl, k8⟩

set_option maxRecDepth 100000 in
set_option maxHeartbeats 1000000 in
theorem parts5_at (kd : Int) (hk : kd = 5) (b c d f cap : Nat) (rest : List Value) (ws : List Int) (n : Int) (vs : List Int) (w : World) (h : Alike w b c d f cap rest ws n) (had : 0 ≤ ad) (had' : ad ≤ 18446744073709551615) (hn : vs.length = l) (hr : Reads w sp vs) (h0 : sp = none → sc = 0) (hb : l * 8 ≤ 140737488351232) (hv : Wf vs)
    (hs : 0 < l → ∀ x, sp = some x → x.block ≠ b ∧ x.block ≠ c ∧ x.block ≠ d ∧ x.block ≠ f) :
    Calls Try.prog 45 #[.pointer (some ⟨b, 0, none⟩), .pointer (some ⟨d, 0, none⟩), .agg #[.int .i64 kd, .int .i64 who, .int .i64 to, .int .i64 lv, .int .u64 ad, .int .u64 wd, .int .u64 od, .int .u64 bh, .slice sp l sc]] w (Kept4 w b c d f cap rest) := by
  subst hk
  have k0 : Keeps (fun _ => False) w (w.alloc (.cells #[.int .i64 5, .int .i64 who, .int .i64 to, .int .i64 lv, .int .u64 ad, .int .u64 wd, .int .u64 od, .int .u64 bh, .slice sp l sc] 40)) := (Keeps.refl _ w).alloc _
  have hbx := alloc_block w (.cells #[.int .i64 5, .int .i64 who, .int .i64 to, .int .i64 lv, .int .u64 ad, .int .u64 wd, .int .u64 od, .int .u64 bh, .slice sp l sc] 40)
  have HN : Hid (vs.length = l) := hn
  have H0 : Hid (sp = none → sc = 0) := h0
  have HB : Hid (l * 8 ≤ 140737488351232) := hb
  have HB' : Hid (l * 8 ≤ 140737488355328) := by show l * 8 ≤ 140737488355328; omega
  have hl : (l : Int) ≤ 17592186043904 := by omega
  have lb := h.row.ltb
  have lc := h.row.ltc
  have ld := h.ref.ltb
  have lf := h.ref.ltc
  have n1 := h.bd
  have n2 := h.bf
  have n3 := h.cd
  have n4 := h.cf
  have hwf := h.wf.filled hv ad
  clear hn h0 hb
  go_enter Try.func45, Try.ntmps45
  go_wp2_with fail
  refine (lent_any sp l sc vs _ HN.out (hr.kept k0) H0.out HB.out).mono ?_
  generalize w.alloc (.cells #[.int .i64 5, .int .i64 who, .int .i64 to, .int .i64 lv, .int .u64 ad, .int .u64 wd, .int .u64 od, .int .u64 bh, .slice sp l sc] 40) = W0 at k0 hbx ⊢
  rintro e w1 ⟨g, gcap, rfl, hg, hL, k1⟩
  have hz := k0.size
  have hb1 := k1.blk hbx (fun f => f)
  have q4 : w1.cell? ⟨w.heap.size, 4, none⟩ = some (.int .u64 ad) := cell_of_block hb1 4
  have q8 : w1.cell? ⟨w.heap.size, 8, none⟩ = some (.slice sp l sc) := cell_of_block hb1 8
  have hr1 := (hr.kept k0).kept k1
  have hlc : (l : Int) ≤ (gcap : Int) := by have := hL.room; have := HN.out; omega
  have hcap : (gcap : Int) ≤ 9223372036854775807 := by have := hL.cap; simp only [maxLen] at this; omega
  replace k1 := k0.trans k1
  have h1 := h.kept k1 (fun f => f) (fun f => f) (fun f => f) (fun f => f)
  have m1 : ¬ (w.heap.size = b ∨ w.heap.size = c) := by omega
  have m2 : ¬ (w.heap.size = d ∨ w.heap.size = f) := by omega
  have m3 : ¬ (g = b ∨ g = c) := by omega
  have m4 : ¬ (g = d ∨ g = f) := by omega
  have m5 : ¬ (d = b ∨ d = c) := by omega
  have m6 : ¬ (f = b ∨ f = c) := by omega
  have m7 : ¬ (b = d ∨ b = f) := by omega
  have m8 : ¬ (c = d ∨ c = f) := by omega
  have s1 : 0 < vs.length → ∀ x, sp = some x → ¬ (x.block = b ∨ x.block = c) := fun h0 x hx => by have := hs (by rw [← HN.out]; exact h0) x hx; omega
  have s2 : 0 < vs.length → ∀ x, sp = some x → ¬ (x.block = d ∨ x.block = f) := fun h0 x hx => by have := hs (by rw [← HN.out]; exact h0) x hx; omega
  have s3 : 0 < l → ∀ x, sp = some x → x.block ≠ d ∧ x.block ≠ f := fun h0 x hx => ⟨(hs h0 x hx).2.2.1, (hs h0 x hx).2.2.2⟩
  clear hb1 hbx k0 hs
  go_wp2
  go_region_held3 (fun w' => w'.cell? ⟨w.heap.size, 4, none⟩ = some (.int .u64 ad) ∧ w'.cell? ⟨w.heap.size, 8, none⟩ = some (.slice sp l sc)) (first | go_keep | (exact ⟨q4, q8⟩))
    ((first
      | (go_at_call 57; refine (fill_at b c ws n ad _ l gcap vs _ (by exact h1.row.drew) had HN.out (by exact hL.drew.reads) HB'.out).mono ?_; rintro e w7 ⟨rfl, r7, k7⟩; replace k7 := k7.from_drew; have p4 := k7.cell m1 q4; have p8 := k7.cell m1 q8; have f7 := h1.ref.kept k7 m5 m6; have L7 := hL.kept k7 m3; have R7 := hr1.keptS k7 s1)
      | (go_at_call 13; refine (num_any _ _).mono ?_; rintro e w' ⟨rfl, hw'⟩; subst hw')
      | (go_at_call 58; refine (rfill_at d f cap rest ws n ad sp l sc vs _ f7 had had' HN.out R7 s3 HB'.out).mono ?_; rintro e w8 ⟨rfl, f8, k8⟩; have o4 := k8.cell m2 p4; have o8 := k8.cell m2 p8; have r8 := r7.kept k8 m7 m8; have L8 := L7.kept k8 m4; have R8 := R7.keptS k8 s2)
      | (go_at_call 14; refine (left_any g gcap sp l sc vs _ HN.out HB.out L8 R8).mono ?_; rintro e w' ⟨rfl, m, hw'⟩; subst hw')))
  have hsp := L8.writes HN.out
  go_wp2_with fail
  refine (spoil_any _ _ g _ HB.out (by exact hsp)).mono ?_
  rintro e w9 ⟨rfl, k9⟩
  have e1 : Alike (w8.drewN m) b c d f cap rest (filled ws ad vs) n := ⟨r8.drewN m, f8.drewN m, hwf, n1, n2, n3, n4⟩
  have e2 := e1.kept k9 (by omega) (by omega) (by omega) (by omega)
  have e3 : Keeps (fun k => (k = b ∨ k = c ∨ k = d ∨ k = f) ∨ k = g) w w9 := (((((k1.mono (fun _ _ f => f.elim)).trans (k7.mono (fun x _ e => by omega))).trans (k8.mono (fun x _ e => by omega))).drewN m).trans (k9.mono (fun x _ e => by omega)))
  have e4 : Keeps (fun k => k = b ∨ k = c ∨ k = d ∨ k = f) w w9 := e3.mono (fun x hx e => by omega)
  clear e1 e3 k9 k8 k7 f8 r8
  go_wp2_with fail
  go_ret
  exact ⟨rfl, ⟨_, _, e2⟩, e4⟩
end

end Go.Proofs.Ytmffkcbdgpaieaa
