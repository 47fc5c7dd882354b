/-
  The walk of the law's plays, kind by kind. No statement of the seat is proved here.
-/
import Derived.Test.YtmffkcbdgpaieaaPlayI
namespace Go.Proofs.Ytmffkcbdgpaieaa
open Go.RowKit

/-- A step has been played: the two rows are alike, and nothing beside F has turned. -/
def Played (w : World) (p q : Option Addr) (F : Nat → Prop) (e : Ending) (w' : World) : Prop := e = .returned (.bool true) ∧ Both w' p q F ∧ Keeps F w w'

theorem kept4_mk {w W0 w7 w8 : World} {b c d f cap : Nat} {rest : List Value} {ws : List Int} {n : Int} (k0 : Keeps (fun _ => False) w W0) (k7 : Keeps (fun k => k = b ∨ k = c) W0 w7) (k8 : Keeps (fun k => k = d ∨ k = f) w7 w8) (r7 : RowAt w7 74 36 b c ws n) (f8 : RefAt w8 d f cap rest ws n) (hwf : Wf ws) (n1 : b ≠ d) (n2 : b ≠ f) (n3 : c ≠ d) (n4 : c ≠ f) :
    Kept4 w b c d f cap rest (.returned (.bool true)) w8 :=
  ⟨rfl, ⟨ws, n, r7.kept k8 (by omega) (by omega), f8, hwf, n1, n2, n3, n4⟩, ((k0.mono (fun _ _ f => f.elim)).trans (k7.mono (fun x _ e => by omega))).trans (k8.mono (fun x _ e => by omega))⟩
theorem Kept4.played {w : World} {b c d f cap : Nat} {rest : List Value} {e : Ending} {w' : World} {F : Nat → Prop} (h : Kept4 w b c d f cap rest e w') (hb : F b) (hc : F c) (hd : F d) (hf : F f) : Played w (some ⟨b, 0, none⟩) (some ⟨d, 0, none⟩) F e w' := by
  obtain ⟨h1, ⟨ws, n, h2⟩, h3⟩ := h
  exact ⟨h1, .inr ⟨b, c, d, f, cap, rest, ws, n, rfl, rfl, h2, hb, hc, hd, hf⟩, h3.mono (fun x _ e => by rcases e with rfl | rfl | rfl | rfl <;> assumption)⟩
theorem Wf.wrap {ws : List Int} (h : Wf ws) (a x : Int) : Wf (putAt ws a (IntKind.u64.wrap x)) := h.put a _ (by rw [wrap_u64]; omega) (by rw [wrap_u64]; omega)

section
variable (who to lv ad wd od bh : Int) (sp : Option Addr) (l sc : Nat)

set_option maxHeartbeats 400000 in
theorem plays1_none (w : World) : Calls Try.prog 19 #[.pointer none, .pointer none, .agg #[.int .i64 1, .int .i64 who, .int .i64 to, .int .i64 lv, .int .u64 ad, .int .u64 wd, .int .u64 od, .int .u64 bh, .slice sp l sc]] w fun e w' => e = .returned (.bool true) ∧ Keeps (fun _ => False) w w' := by
  have k0 : Keeps (fun _ => False) w (w.alloc (.cells #[.int .i64 1, .int .i64 who, .int .i64 to, .int .i64 lv, .int .u64 ad, .int .u64 wd, .int .u64 od, .int .u64 bh, .slice sp l sc] 40)) := (Keeps.refl _ w).alloc _
  go_enter Try.func19, Try.ntmps19
  go_wp2_with fail
  refine (load_none none _ _ (.inl rfl)).mono ?_
  rintro e w1 ⟨rfl, hw⟩
  subst hw
  go_wp2_with fail
  refine (rload_nil _ _).mono ?_
  rintro e w1 ⟨rfl, hw⟩
  subst hw
  go_wp2_with fail
  refine (num_any _ _).mono ?_
  rintro e w1 ⟨rfl, hw⟩
  subst hw
  go_wp2_with fail
  go_ret
  exact ⟨rfl, k0⟩

set_option maxHeartbeats 400000 in
theorem plays2_none (w : World) : Calls Try.prog 19 #[.pointer none, .pointer none, .agg #[.int .i64 2, .int .i64 who, .int .i64 to, .int .i64 lv, .int .u64 ad, .int .u64 wd, .int .u64 od, .int .u64 bh, .slice sp l sc]] w fun e w' => e = .returned (.bool true) ∧ Keeps (fun _ => False) w w' := by
  have k0 : Keeps (fun _ => False) w (w.alloc (.cells #[.int .i64 2, .int .i64 who, .int .i64 to, .int .i64 lv, .int .u64 ad, .int .u64 wd, .int .u64 od, .int .u64 bh, .slice sp l sc] 40)) := (Keeps.refl _ w).alloc _
  go_enter Try.func19, Try.ntmps19
  go_wp2
  go_region_held3 (fun w' => w'.cell? ⟨w.heap.size, 4, none⟩ = some (.int .u64 ad) ∧ w'.cell? ⟨w.heap.size, 5, none⟩ = some (.int .u64 wd)) (go_keep)
    ((first
      | (go_at_call 24; refine (store_none none _ _ _ (.inl rfl)).mono ?_; rintro e w' ⟨rfl, hw'⟩; subst hw')
      | (go_at_call 13; refine (num_any _ _).mono ?_; rintro e w' ⟨rfl, hw'⟩; subst hw')
      | (go_at_call 25; refine (rstore_nil _ _ _).mono ?_; rintro e w' ⟨rfl, hw'⟩; subst hw')))
  go_wp2_with fail
  go_ret
  exact ⟨rfl, k0.drew⟩

set_option maxHeartbeats 400000 in
theorem plays3_none (w : World) : Calls Try.prog 19 #[.pointer none, .pointer none, .agg #[.int .i64 3, .int .i64 who, .int .i64 to, .int .i64 lv, .int .u64 ad, .int .u64 wd, .int .u64 od, .int .u64 bh, .slice sp l sc]] w fun e w' => e = .returned (.bool true) ∧ Keeps (fun _ => False) w w' := by
  have k0 : Keeps (fun _ => False) w (w.alloc (.cells #[.int .i64 3, .int .i64 who, .int .i64 to, .int .i64 lv, .int .u64 ad, .int .u64 wd, .int .u64 od, .int .u64 bh, .slice sp l sc] 40)) := (Keeps.refl _ w).alloc _
  go_enter Try.func19, Try.ntmps19
  go_wp2_with fail
  refine (swap_none none _ _ _ _ (.inl rfl)).mono ?_
  rintro e w1 ⟨rfl, hw⟩
  subst hw
  go_wp2_with fail
  refine (rswap_nil _ _ _ _).mono ?_
  rintro e w1 ⟨rfl, hw⟩
  subst hw
  go_wp2_with fail
  refine (num_any _ _).mono ?_
  rintro e w1 ⟨rfl, hw⟩
  subst hw
  go_wp2_with fail
  go_ret
  exact ⟨rfl, k0⟩

set_option maxHeartbeats 400000 in
theorem plays4_none (w : World) : Calls Try.prog 19 #[.pointer none, .pointer none, .agg #[.int .i64 4, .int .i64 who, .int .i64 to, .int .i64 lv, .int .u64 ad, .int .u64 wd, .int .u64 od, .int .u64 bh, .slice sp l sc]] w fun e w' => e = .returned (.bool true) ∧ Keeps (fun _ => False) w w' := by
  have k0 : Keeps (fun _ => False) w (w.alloc (.cells #[.int .i64 4, .int .i64 who, .int .i64 to, .int .i64 lv, .int .u64 ad, .int .u64 wd, .int .u64 od, .int .u64 bh, .slice sp l sc] 40)) := (Keeps.refl _ w).alloc _
  go_enter Try.func19, Try.ntmps19
  go_wp2_with fail
  refine (add_none none _ _ _ (.inl rfl)).mono ?_
  rintro e w1 ⟨rfl, hw⟩
  subst hw
  go_wp2_with fail
  refine (radd_nil _ _ _).mono ?_
  rintro e w1 ⟨rfl, hw⟩
  subst hw
  go_wp2_with fail
  refine (num_any _ _).mono ?_
  rintro e w1 ⟨rfl, hw⟩
  subst hw
  go_wp2_with fail
  go_ret
  exact ⟨rfl, k0⟩

set_option maxHeartbeats 400000 in
theorem plays1_at (b c d f cap : Nat) (rest : List Value) (ws : List Int) (n : Int) (w : World) (h : Alike w b c d f cap rest ws n) (had : 0 ≤ ad) :
    Calls Try.prog 19 #[.pointer (some ⟨b, 0, none⟩), .pointer (some ⟨d, 0, none⟩), .agg #[.int .i64 1, .int .i64 who, .int .i64 to, .int .i64 lv, .int .u64 ad, .int .u64 wd, .int .u64 od, .int .u64 bh, .slice sp l sc]] w (Kept4 w b c d f cap rest) := by
  have k0 : Keeps (fun _ => False) w (w.alloc (.cells #[.int .i64 1, .int .i64 who, .int .i64 to, .int .i64 lv, .int .u64 ad, .int .u64 wd, .int .u64 od, .int .u64 bh, .slice sp l sc] 40)) := (Keeps.refl _ w).alloc _
  have h0 := h.alloc (.cells #[.int .i64 1, .int .i64 who, .int .i64 to, .int .i64 lv, .int .u64 ad, .int .u64 wd, .int .u64 od, .int .u64 bh, .slice sp l sc] 40)
  have hbx := alloc_block w (.cells #[.int .i64 1, .int .i64 who, .int .i64 to, .int .i64 lv, .int .u64 ad, .int .u64 wd, .int .u64 od, .int .u64 bh, .slice sp l sc] 40)
  have lb := h.row.ltb
  have lc := h.row.ltc
  have n1 := h.bd
  have n2 := h.bf
  have n3 := h.cd
  have n4 := h.cf
  have hwf : Wf (ws) := h.wf
  go_enter Try.func19, Try.ntmps19
  go_wp2_with fail
  refine (load_at b c ws n ad _ h0.row had).mono ?_
  generalize w.alloc (.cells #[.int .i64 1, .int .i64 who, .int .i64 to, .int .i64 lv, .int .u64 ad, .int .u64 wd, .int .u64 od, .int .u64 bh, .slice sp l sc] 40) = W0 at k0 h0 hbx ⊢
  rintro e w7 ⟨rfl, r7, k7⟩
  have hb7 := k7.blk hbx (by omega)
  have x4 : w7.cell? ⟨w.heap.size, 4, none⟩ = some (.int .u64 ad) := cell_of_block hb7 4
  have x5 : w7.cell? ⟨w.heap.size, 5, none⟩ = some (.int .u64 wd) := cell_of_block hb7 5
  have x6 : w7.cell? ⟨w.heap.size, 6, none⟩ = some (.int .u64 od) := cell_of_block hb7 6
  have f7 := h0.ref.kept k7 (by omega) (by omega)
  clear hb7 hbx
  go_wp2_with fail
  refine (rload_at d f cap rest ws n ad _ f7 had).mono ?_
  rintro e w8 ⟨rfl, f8, k8⟩
  have fin := kept4_mk k0 k7 k8 r7 f8 hwf n1 n2 n3 n4
  clear r7 f8 k7 k8
  go_wp2_with (go_at_call 13; refine (num_any _ _).mono ?_; rintro e w' ⟨rfl, hw'⟩; subst hw')
  go_ret
  exact cast (congrArg (fun x => Kept4 w b c d f cap rest (.returned (.bool x)) _) (by simp)) fin

set_option maxHeartbeats 400000 in
theorem plays3_at (b c d f cap : Nat) (rest : List Value) (ws : List Int) (n : Int) (w : World) (h : Alike w b c d f cap rest ws n) (had : 0 ≤ ad) (hwd : 0 ≤ wd) (hwd' : wd ≤ 18446744073709551615) :
    Calls Try.prog 19 #[.pointer (some ⟨b, 0, none⟩), .pointer (some ⟨d, 0, none⟩), .agg #[.int .i64 3, .int .i64 who, .int .i64 to, .int .i64 lv, .int .u64 ad, .int .u64 wd, .int .u64 od, .int .u64 bh, .slice sp l sc]] w (Kept4 w b c d f cap rest) := by
  have k0 : Keeps (fun _ => False) w (w.alloc (.cells #[.int .i64 3, .int .i64 who, .int .i64 to, .int .i64 lv, .int .u64 ad, .int .u64 wd, .int .u64 od, .int .u64 bh, .slice sp l sc] 40)) := (Keeps.refl _ w).alloc _
  have h0 := h.alloc (.cells #[.int .i64 3, .int .i64 who, .int .i64 to, .int .i64 lv, .int .u64 ad, .int .u64 wd, .int .u64 od, .int .u64 bh, .slice sp l sc] 40)
  have hbx := alloc_block w (.cells #[.int .i64 3, .int .i64 who, .int .i64 to, .int .i64 lv, .int .u64 ad, .int .u64 wd, .int .u64 od, .int .u64 bh, .slice sp l sc] 40)
  have lb := h.row.ltb
  have lc := h.row.ltc
  have n1 := h.bd
  have n2 := h.bf
  have n3 := h.cd
  have n4 := h.cf
  have hwf : Wf (if swaps ws ad od then putAt ws ad wd else ws) := by split; exact h.wf.put ad wd hwd hwd'; exact h.wf
  go_enter Try.func19, Try.ntmps19
  go_wp2_with fail
  refine (swap_at b c ws n ad od wd _ h0.row had).mono ?_
  generalize w.alloc (.cells #[.int .i64 3, .int .i64 who, .int .i64 to, .int .i64 lv, .int .u64 ad, .int .u64 wd, .int .u64 od, .int .u64 bh, .slice sp l sc] 40) = W0 at k0 h0 hbx ⊢
  rintro e w7 ⟨rfl, r7, k7⟩
  have hb7 := k7.blk hbx (by omega)
  have x4 : w7.cell? ⟨w.heap.size, 4, none⟩ = some (.int .u64 ad) := cell_of_block hb7 4
  have x5 : w7.cell? ⟨w.heap.size, 5, none⟩ = some (.int .u64 wd) := cell_of_block hb7 5
  have x6 : w7.cell? ⟨w.heap.size, 6, none⟩ = some (.int .u64 od) := cell_of_block hb7 6
  have f7 := h0.ref.kept k7 (by omega) (by omega)
  clear hb7 hbx
  go_wp2_with fail
  refine (rswap_at d f cap rest ws n ad od wd _ f7 had).mono ?_
  rintro e w8 ⟨rfl, f8, k8⟩
  have fin := kept4_mk k0 k7 k8 r7 f8 hwf n1 n2 n3 n4
  clear r7 f8 k7 k8
  go_wp2_with (go_at_call 13; refine (num_any _ _).mono ?_; rintro e w' ⟨rfl, hw'⟩; subst hw')
  go_ret
  exact cast (congrArg (fun x => Kept4 w b c d f cap rest (.returned (.bool x)) _) (by simp)) fin

set_option maxHeartbeats 400000 in
theorem plays4_at (b c d f cap : Nat) (rest : List Value) (ws : List Int) (n : Int) (w : World) (h : Alike w b c d f cap rest ws n) (had : 0 ≤ ad) :
    Calls Try.prog 19 #[.pointer (some ⟨b, 0, none⟩), .pointer (some ⟨d, 0, none⟩), .agg #[.int .i64 4, .int .i64 who, .int .i64 to, .int .i64 lv, .int .u64 ad, .int .u64 wd, .int .u64 od, .int .u64 bh, .slice sp l sc]] w (Kept4 w b c d f cap rest) := by
  have k0 : Keeps (fun _ => False) w (w.alloc (.cells #[.int .i64 4, .int .i64 who, .int .i64 to, .int .i64 lv, .int .u64 ad, .int .u64 wd, .int .u64 od, .int .u64 bh, .slice sp l sc] 40)) := (Keeps.refl _ w).alloc _
  have h0 := h.alloc (.cells #[.int .i64 4, .int .i64 who, .int .i64 to, .int .i64 lv, .int .u64 ad, .int .u64 wd, .int .u64 od, .int .u64 bh, .slice sp l sc] 40)
  have hbx := alloc_block w (.cells #[.int .i64 4, .int .i64 who, .int .i64 to, .int .i64 lv, .int .u64 ad, .int .u64 wd, .int .u64 od, .int .u64 bh, .slice sp l sc] 40)
  have lb := h.row.ltb
  have lc := h.row.ltc
  have n1 := h.bd
  have n2 := h.bf
  have n3 := h.cd
  have n4 := h.cf
  have hwf : Wf (putAt ws ad (IntKind.u64.wrap (wordAt ws ad + wd))) := h.wf.wrap ad _
  go_enter Try.func19, Try.ntmps19
  go_wp2_with fail
  refine (add_at b c ws n ad wd _ h0.row had).mono ?_
  generalize w.alloc (.cells #[.int .i64 4, .int .i64 who, .int .i64 to, .int .i64 lv, .int .u64 ad, .int .u64 wd, .int .u64 od, .int .u64 bh, .slice sp l sc] 40) = W0 at k0 h0 hbx ⊢
  rintro e w7 ⟨rfl, r7, k7⟩
  have hb7 := k7.blk hbx (by omega)
  have x4 : w7.cell? ⟨w.heap.size, 4, none⟩ = some (.int .u64 ad) := cell_of_block hb7 4
  have x5 : w7.cell? ⟨w.heap.size, 5, none⟩ = some (.int .u64 wd) := cell_of_block hb7 5
  have x6 : w7.cell? ⟨w.heap.size, 6, none⟩ = some (.int .u64 od) := cell_of_block hb7 6
  have f7 := h0.ref.kept k7 (by omega) (by omega)
  clear hb7 hbx
  go_wp2_with fail
  refine (radd_at d f cap rest ws n ad wd _ f7 had).mono ?_
  rintro e w8 ⟨rfl, f8, k8⟩
  have fin := kept4_mk k0 k7 k8 r7 f8 hwf n1 n2 n3 n4
  clear r7 f8 k7 k8
  go_wp2_with (go_at_call 13; refine (num_any _ _).mono ?_; rintro e w' ⟨rfl, hw'⟩; subst hw')
  go_ret
  exact cast (congrArg (fun x => Kept4 w b c d f cap rest (.returned (.bool x)) _) (by simp)) fin

set_option maxHeartbeats 1000000 in
theorem plays2_at (b c d f cap : Nat) (rest : List Value) (ws : List Int) (n : Int) (w : World) (h : Alike w b c d f cap rest ws n) (had : 0 ≤ ad) (hwd : 0 ≤ wd) (hwd' : wd ≤ 18446744073709551615) :
    Calls Try.prog 19 #[.pointer (some ⟨b, 0, none⟩), .pointer (some ⟨d, 0, none⟩), .agg #[.int .i64 2, .int .i64 who, .int .i64 to, .int .i64 lv, .int .u64 ad, .int .u64 wd, .int .u64 od, .int .u64 bh, .slice sp l sc]] w (Kept4 w b c d f cap rest) := by
  have k0 : Keeps (fun _ => False) w (w.alloc (.cells #[.int .i64 2, .int .i64 who, .int .i64 to, .int .i64 lv, .int .u64 ad, .int .u64 wd, .int .u64 od, .int .u64 bh, .slice sp l sc] 40)) := (Keeps.refl _ w).alloc _
  have h0 := h.alloc (.cells #[.int .i64 2, .int .i64 who, .int .i64 to, .int .i64 lv, .int .u64 ad, .int .u64 wd, .int .u64 od, .int .u64 bh, .slice sp l sc] 40)
  have hbx := alloc_block w (.cells #[.int .i64 2, .int .i64 who, .int .i64 to, .int .i64 lv, .int .u64 ad, .int .u64 wd, .int .u64 od, .int .u64 bh, .slice sp l sc] 40)
  have lb := h.row.ltb
  have lc := h.row.ltc
  have ld := h.ref.ltb
  have lf := h.ref.ltc
  have n1 := h.bd
  have n2 := h.bf
  have n3 := h.cd
  have n4 := h.cf
  have hwf : Wf (putAt ws ad wd) := h.wf.put ad wd hwd hwd'
  have m1 : ¬ (w.heap.size = b ∨ w.heap.size = c) := by omega
  have m2 : ¬ (w.heap.size = d ∨ w.heap.size = f) := by omega
  have m5 : ¬ (d = b ∨ d = c) := by omega
  have m6 : ¬ (f = b ∨ f = c) := by omega
  have q4 : (w.alloc (.cells #[.int .i64 2, .int .i64 who, .int .i64 to, .int .i64 lv, .int .u64 ad, .int .u64 wd, .int .u64 od, .int .u64 bh, .slice sp l sc] 40)).cell? ⟨w.heap.size, 4, none⟩ = some (.int .u64 ad) := cell_of_block hbx 4
  have q5 : (w.alloc (.cells #[.int .i64 2, .int .i64 who, .int .i64 to, .int .i64 lv, .int .u64 ad, .int .u64 wd, .int .u64 od, .int .u64 bh, .slice sp l sc] 40)).cell? ⟨w.heap.size, 5, none⟩ = some (.int .u64 wd) := cell_of_block hbx 5
  clear hbx
  go_enter Try.func19, Try.ntmps19
  go_wp2
  generalize w.alloc (.cells #[.int .i64 2, .int .i64 who, .int .i64 to, .int .i64 lv, .int .u64 ad, .int .u64 wd, .int .u64 od, .int .u64 bh, .slice sp l sc] 40) = W0 at k0 h0 q4 q5 ⊢
  go_region_held3 (fun w' => w'.cell? ⟨w.heap.size, 4, none⟩ = some (.int .u64 ad) ∧ w'.cell? ⟨w.heap.size, 5, none⟩ = some (.int .u64 wd)) (go_keep)
    ((first
      | (go_at_call 24; refine (store_at b c ws n ad wd _ (by exact h0.row.drew) had).mono ?_; rintro e w7 ⟨rfl, r7, k7⟩; replace k7 := k7.from_drew; have p4 := k7.cell m1 q4; have p5 := k7.cell m1 q5; have f7 := h0.ref.kept k7 m5 m6)
      | (go_at_call 13; refine (num_any _ _).mono ?_; rintro e w' ⟨rfl, hw'⟩; subst hw')
      | (go_at_call 25; refine (rstore_at d f cap rest ws n ad wd _ f7 had).mono ?_; rintro e w8 ⟨rfl, f8, k8⟩; have o4 := k8.cell m2 p4; have o5 := k8.cell m2 p5)))
  have fin := kept4_mk k0 k7 k8 r7 f8 hwf n1 n2 n3 n4
  clear r7 f8 k7 k8
  go_wp2_with fail
  go_ret
  exact cast (congrArg (fun x => Kept4 w b c d f cap rest (.returned (.bool x)) _) (by simp)) fin

set_option maxHeartbeats 400000 in
theorem plays5_none (w : World) (vs : List Int) (hn : vs.length = l) (hr : Reads w sp vs) (h0 : sp = none → sc = 0) (hb : l * 8 ≤ 140737488351232) : Calls Try.prog 19 #[.pointer none, .pointer none, .agg #[.int .i64 5, .int .i64 who, .int .i64 to, .int .i64 lv, .int .u64 ad, .int .u64 wd, .int .u64 od, .int .u64 bh, .slice sp l sc]] w fun e w' => e = .returned (.bool true) ∧ Keeps (fun _ => False) w w' := by
  have k0 : Keeps (fun _ => False) w (w.alloc (.cells #[.int .i64 5, .int .i64 who, .int .i64 to, .int .i64 lv, .int .u64 ad, .int .u64 wd, .int .u64 od, .int .u64 bh, .slice sp l sc] 40)) := (Keeps.refl _ w).alloc _
  have hcall := parts5_none who to lv ad wd od bh sp l sc 5 rfl vs (w.alloc (.cells #[.int .i64 5, .int .i64 who, .int .i64 to, .int .i64 lv, .int .u64 ad, .int .u64 wd, .int .u64 od, .int .u64 bh, .slice sp l sc] 40)) hn (hr.kept k0) h0 hb
  clear hn hr h0 hb
  go_enter Try.func19, Try.ntmps19
  go_wp2_with fail
  refine hcall.mono ?_
  rintro e w1 ⟨rfl, k1⟩
  replace k1 := k0.trans k1
  go_wp2_with fail
  go_ret
  exact ⟨rfl, k1⟩

set_option maxHeartbeats 400000 in
theorem plays5_at (b c d f cap : Nat) (rest : List Value) (ws : List Int) (n : Int) (vs : List Int) (w : World) (h : Alike w b c d f cap rest ws n) (had : 0 ≤ ad) (had' : ad ≤ 18446744073709551615) (hn : vs.length = l) (hr : Reads w sp vs) (h0 : sp = none → sc = 0) (hb : l * 8 ≤ 140737488351232) (hv : Wf vs) (hs : 0 < l → ∀ x, sp = some x → x.block ≠ b ∧ x.block ≠ c ∧ x.block ≠ d ∧ x.block ≠ f) :
    Calls Try.prog 19 #[.pointer (some ⟨b, 0, none⟩), .pointer (some ⟨d, 0, none⟩), .agg #[.int .i64 5, .int .i64 who, .int .i64 to, .int .i64 lv, .int .u64 ad, .int .u64 wd, .int .u64 od, .int .u64 bh, .slice sp l sc]] w (Kept4 w b c d f cap rest) := by
  have k0 : Keeps (fun _ => False) w (w.alloc (.cells #[.int .i64 5, .int .i64 who, .int .i64 to, .int .i64 lv, .int .u64 ad, .int .u64 wd, .int .u64 od, .int .u64 bh, .slice sp l sc] 40)) := (Keeps.refl _ w).alloc _
  have hA := h.alloc (.cells #[.int .i64 5, .int .i64 who, .int .i64 to, .int .i64 lv, .int .u64 ad, .int .u64 wd, .int .u64 od, .int .u64 bh, .slice sp l sc] 40)
  have hcall := parts5_at who to lv ad wd od bh sp l sc 5 rfl b c d f cap rest ws n vs _ hA had had' hn (hr.kept k0) h0 hb hv hs
  clear hA hn hr h0 hb hs hv
  go_enter Try.func19, Try.ntmps19
  go_wp2_with fail
  refine hcall.mono ?_
  rintro e w1 ⟨rfl, hal, k1⟩
  replace k1 := (k0.mono (fun _ _ f => f.elim)).trans k1
  go_wp2_with fail
  go_ret
  exact ⟨rfl, hal, k1⟩

set_option maxHeartbeats 400000 in
theorem plays6_none (w : World) : Calls Try.prog 19 #[.pointer none, .pointer none, .agg #[.int .i64 6, .int .i64 who, .int .i64 to, .int .i64 lv, .int .u64 ad, .int .u64 wd, .int .u64 od, .int .u64 bh, .slice sp l sc]] w fun e w' => e = .returned (.bool true) ∧ Keeps (fun _ => False) w w' := by
  have k0 : Keeps (fun _ => False) w (w.alloc (.cells #[.int .i64 6, .int .i64 who, .int .i64 to, .int .i64 lv, .int .u64 ad, .int .u64 wd, .int .u64 od, .int .u64 bh, .slice sp l sc] 40)) := (Keeps.refl _ w).alloc _
  have hcall := parts6_none who to lv ad wd od bh sp l sc 6 rfl (w.alloc (.cells #[.int .i64 6, .int .i64 who, .int .i64 to, .int .i64 lv, .int .u64 ad, .int .u64 wd, .int .u64 od, .int .u64 bh, .slice sp l sc] 40))
  skip
  go_enter Try.func19, Try.ntmps19
  go_wp2_with fail
  refine hcall.mono ?_
  rintro e w1 ⟨rfl, k1⟩
  replace k1 := k0.trans k1
  go_wp2_with fail
  go_ret
  exact ⟨rfl, k1⟩

set_option maxHeartbeats 400000 in
theorem plays6_at (b c d f cap : Nat) (rest : List Value) (ws : List Int) (n : Int) (w : World) (h : Alike w b c d f cap rest ws n) (had : 0 ≤ ad) :
    Calls Try.prog 19 #[.pointer (some ⟨b, 0, none⟩), .pointer (some ⟨d, 0, none⟩), .agg #[.int .i64 6, .int .i64 who, .int .i64 to, .int .i64 lv, .int .u64 ad, .int .u64 wd, .int .u64 od, .int .u64 bh, .slice sp l sc]] w (Kept4 w b c d f cap rest) := by
  have k0 : Keeps (fun _ => False) w (w.alloc (.cells #[.int .i64 6, .int .i64 who, .int .i64 to, .int .i64 lv, .int .u64 ad, .int .u64 wd, .int .u64 od, .int .u64 bh, .slice sp l sc] 40)) := (Keeps.refl _ w).alloc _
  have hA := h.alloc (.cells #[.int .i64 6, .int .i64 who, .int .i64 to, .int .i64 lv, .int .u64 ad, .int .u64 wd, .int .u64 od, .int .u64 bh, .slice sp l sc] 40)
  have hcall := parts6_at who to lv ad wd od bh sp l sc 6 rfl b c d f cap rest ws n _ hA had
  clear hA
  go_enter Try.func19, Try.ntmps19
  go_wp2_with fail
  refine hcall.mono ?_
  rintro e w1 ⟨rfl, hal, k1⟩
  replace k1 := (k0.mono (fun _ _ f => f.elim)).trans k1
  go_wp2_with fail
  go_ret
  exact ⟨rfl, hal, k1⟩

theorem Both.rows {W : World} {p q : Option Addr} {F : Nat → Prop} (h : Both W p q F) : ∃ ws, RowOr W p ws ∧ RefOr W q ws := by
  rcases h with ⟨rfl, rfl⟩ | ⟨b, c, d, f, cap, rest, ws, n, rfl, rfl, h, _⟩
  · exact ⟨[], .inl ⟨.inl rfl, rfl⟩, .inl ⟨rfl, rfl⟩⟩
  · exact ⟨ws, .inr ⟨b, c, n, rfl, h.row⟩, .inr ⟨d, f, cap, rest, n, rfl, h.ref⟩⟩

set_option maxHeartbeats 400000 in
theorem plays7_any (p q : Option Addr) (F : Nat → Prop) (w : World) (h : Both w p q F) : Calls Try.prog 19 #[.pointer p, .pointer q, .agg #[.int .i64 7, .int .i64 who, .int .i64 to, .int .i64 lv, .int .u64 ad, .int .u64 wd, .int .u64 od, .int .u64 bh, .slice sp l sc]] w fun e w' => e = .returned (.bool true) ∧ Keeps (fun _ => False) w w' := by
  have k0 : Keeps (fun _ => False) w (w.alloc (.cells #[.int .i64 7, .int .i64 who, .int .i64 to, .int .i64 lv, .int .u64 ad, .int .u64 wd, .int .u64 od, .int .u64 bh, .slice sp l sc] 40)) := (Keeps.refl _ w).alloc _
  obtain ⟨ws, hp, hq⟩ := (h.kept k0 (fun _ _ f => f)).rows
  have hcall := goes_at p q ws lv _ hp hq
  clear hp hq
  go_enter Try.func19, Try.ntmps19
  go_wp2_with fail
  refine hcall.mono ?_
  rintro e w1 ⟨rfl, k1⟩
  replace k1 := k0.trans (Keeps.of_below k1 _)
  go_wp2_with fail
  go_ret
  exact ⟨rfl, k1⟩

set_option maxHeartbeats 400000 in
theorem plays8_any (p q : Option Addr) (F : Nat → Prop) (w : World) (h : Both w p q F) (had : 0 ≤ ad) : Calls Try.prog 19 #[.pointer p, .pointer q, .agg #[.int .i64 8, .int .i64 who, .int .i64 to, .int .i64 lv, .int .u64 ad, .int .u64 wd, .int .u64 od, .int .u64 bh, .slice sp l sc]] w fun e w' => e = .returned (.bool true) ∧ Keeps (fun _ => False) w w' := by
  have k0 : Keeps (fun _ => False) w (w.alloc (.cells #[.int .i64 8, .int .i64 who, .int .i64 to, .int .i64 lv, .int .u64 ad, .int .u64 wd, .int .u64 od, .int .u64 bh, .slice sp l sc] 40)) := (Keeps.refl _ w).alloc _
  have hcall := tells_any p q F ad had _ (h.kept k0 (fun _ _ f => f))
  go_enter Try.func19, Try.ntmps19
  go_wp2_with fail
  refine hcall.mono ?_
  rintro e w1 ⟨rfl, k1⟩
  replace k1 := k0.trans k1
  go_wp2_with fail
  go_ret
  exact ⟨rfl, k1⟩

set_option maxHeartbeats 400000 in
theorem plays_other (kd : Int) (p q : Option Addr) (w : World) (hk : kd < 1 ∨ 8 < kd) : Calls Try.prog 19 #[.pointer p, .pointer q, .agg #[.int .i64 kd, .int .i64 who, .int .i64 to, .int .i64 lv, .int .u64 ad, .int .u64 wd, .int .u64 od, .int .u64 bh, .slice sp l sc]] w fun e w' => e = .returned (.bool true) ∧ Keeps (fun _ => False) w w' := by
  have k0 : Keeps (fun _ => False) w (w.alloc (.cells #[.int .i64 kd, .int .i64 who, .int .i64 to, .int .i64 lv, .int .u64 ad, .int .u64 wd, .int .u64 od, .int .u64 bh, .slice sp l sc] 40)) := (Keeps.refl _ w).alloc _
  have e1 : (kd == 1) = false := by simp; omega
  have e2 : (kd == 2) = false := by simp; omega
  have e3 : (kd == 3) = false := by simp; omega
  have e4 : (kd == 4) = false := by simp; omega
  have e5 : (kd == 5) = false := by simp; omega
  have e6 : (kd == 6) = false := by simp; omega
  have e7 : (kd == 7) = false := by simp; omega
  have e8 : (kd == 8) = false := by simp; omega
  clear hk
  go_enter Try.func19, Try.ntmps19
  go_wp2
  go_ret
  exact ⟨rfl, k0⟩

end

end Go.Proofs.Ytmffkcbdgpaieaa
