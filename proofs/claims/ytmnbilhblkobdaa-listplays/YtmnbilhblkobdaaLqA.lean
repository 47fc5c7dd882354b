
/- The state of a walk of list: the cells, what was kept, a spot of its own (layer 21). No statement of the seat is proved here. -/
import Derived.Test.YtmnbilhblkobdaaLpE
namespace Go.Proofs.Ytmnbilhblkobdaa
open Go.RowKit

structure Hs (w : World) (b g c : Nat) (X : World) (s : Wd) : Prop where
  wd : WdAt X b g c s
  k : Keeps (two b g) w X
  lb : b < w.heap.size ∧ g < w.heap.size
structure Hq (w : World) (b g c : Nat) (X : World) (s : Wd) (q : Nat) (t : Sp) : Prop where
  hs : Hs w b g c X s
  sp : SpAt X q t
  ql : w.heap.size ≤ q
section
variable {w X X' : World} {b g c q : Nat} {s s' : Wd} {t : Sp}
theorem WdAt.drew (h : WdAt X b g c s) : WdAt X.drew b g c s := h.like rfl
theorem Hs.start (h : WdAt w b g c s) : Hs w b g c w s := ⟨h, Keeps.refl _ _, h.ltb, h.ltg⟩
theorem Hs.acc (h : Hs w b g c X s) (k : Keeps (two b g) X X') (wd : WdAt X' b g c s') : Hs w b g c X' s' := ⟨wd, h.k.trans k, h.lb⟩
theorem Hs.new (h : Hs w b g c X s) (k : Keeps (fun _ => False) X X') : Hs w b g c X' s := ⟨h.wd.kept k (fun f => f) (fun f => f), h.k.step k (fun _ _ f => f.elim), h.lb⟩
theorem Hs.own {S : Nat → Prop} (h : Hs w b g c X s) (k : Keeps S X X') (hS : ∀ i, S i → w.heap.size ≤ i) : Hs w b g c X' s := by
  have := h.lb
  exact ⟨h.wd.kept k (fun e => by have := hS _ e; omega) (fun e => by have := hS _ e; omega), h.k.step k (fun i hi e => by have := hS _ e; omega), h.lb⟩
theorem Hs.spot (h : Hs w b g c X s) (t : Sp) : Hq w b g c (X.alloc (.cells #[.int .u64 t.l, .int .u64 t.n, .int .u64 t.k] 75)) s X.heap.size t := ⟨h.new (keeps_new X _), spAt_new X t, h.k.size⟩
theorem Hq.acc (h : Hq w b g c X s q t) (k : Keeps (two b g) X X') (wd : WdAt X' b g c s') : Hq w b g c X' s' q t := by
  have := h.hs.lb
  have h2 := h.ql
  exact ⟨h.hs.acc k wd, h.sp.keeps k (by rintro (e | e) <;> omega), h.ql⟩
theorem Hq.new (h : Hq w b g c X s q t) (k : Keeps (fun _ => False) X X') : Hq w b g c X' s q t := ⟨h.hs.new k, h.sp.keeps k (fun f => f), h.ql⟩
end
theorem way_r {fn : Nat} {cap : Array Value} {pass : List Sp → Sp → Bool} {J : List Sp → World → Prop} {Fp : World → Nat → Prop} (E : PassAt fn cap pass J Fp) {b g c : Nat} {s : Wd} {l e : Int} {t : Sp} {P : List Sp} {s1 : Wd} (heq : Hid (s.way pass l = ((t, e), P, s1))) (hce : s.c ≠ 0 ∨ s.f < 0) {w : World} (h : WdAt w b g c s) (hj : J [] w) (hfb : ¬ Fp w b) (hfg : ¬ Fp w g) :
    Calls Try.prog 46 #[.iface 24 (.pointer (some ⟨b, 0, none⟩)), .int .u64 l, .func (.func fn) #[] cap] w fun r w' => r = .returned (.tuple #[t.v, .int .i64 e]) ∧ WdAt w' b g c s1 ∧ J P w' ∧ Keeps (fun i => two b g i ∨ Fp w i) w w' ∧ (∀ i, Fp w' i → Fp w i ∨ w.heap.size ≤ i) := by
  have hq := way_any E b g c s l hce w h hj hfb hfg
  rw [heq.out] at hq
  exact hq
set_option maxHeartbeats 1000000 in
theorem seek_any (b g c : Nat) (s : Wd) (l key : Int) (hce : s.c ≠ 0 ∨ s.f < 0) (w : World) (h : WdAt w b g c s) :
    Calls Try.prog 37 #[.iface 24 (.pointer (some ⟨b, 0, none⟩)), .int .u64 l, .int .u64 key] w fun e w' => e = .returned (.tuple #[(s.seek l key).1.1.v, .int .i64 (s.seek l key).1.2]) ∧ WdAt w' b g c (s.seek l key).2 ∧ Keeps (two b g) w w' := by
  unfold Wd.seek
  obtain ⟨⟨⟨⟨tl, tn, tk⟩, er⟩, P, s1⟩, hR⟩ : ∃ r, s.way (pLt key) l = r := ⟨_, rfl⟩
  rw [hR]
  have HR : Hid (_ = _) := hR
  clear hR
  have HLB : Hid (b < w.heap.size ∧ g < w.heap.size) := ⟨h.ltb, h.ltg⟩
  have HST : Hid (∀ X, X = ((w.alloc (.cells #[.int .u64 key] 25)).alloc (.cells #[.int .u64 0, .int .u64 0, .int .u64 0] 75)) → WdAt X b g c s ∧ KeyAt X w.heap.size key ∧ Keeps (two b g) w X ∧ SpAt X (w.heap.size + 1) Sp.zero) := by
    intro X hX
    have kn : Keeps (fun _ => False) w X := by rw [hX]; exact (keeps_new w _).alloc _
    refine ⟨h.kept kn (fun f => f) (fun f => f), ?_, kn.mono (fun _ _ f => f.elim), ?_⟩
    · rw [hX]
      exact KeyAt.keeps (alloc_block w _) (keeps_new _ _) (fun f => f)
    · have q := spAt_new (w.alloc (.cells #[.int .u64 key] 25)) Sp.zero
      rw [show (w.alloc (.cells #[.int .u64 key] 25)).heap.size = w.heap.size + 1 by simp] at q
      rw [hX]; exact q
  clear h
  go_enter Try.func37, Try.ntmps37
  go_wp2_with fail
  obtain ⟨X, hX⟩ : ∃ X, X = ((w.alloc (.cells #[.int .u64 key] 25)).alloc (.cells #[.int .u64 0, .int .u64 0, .int .u64 0] 75)) := ⟨_, rfl⟩
  rw [← hX]
  have hx := HST.out X hX
  have hb := HLB.out
  clear HST hX
  refine (way_r (pass_lt w.heap.size key) HR hce hx.1 hx.2.1 (by show ¬ b = w.heap.size; omega) (by show ¬ g = w.heap.size; omega)).mono ?_
  rintro e_ w1 ⟨rfl, h1, j1, k1, f1⟩
  have HZ : Hid (WdAt w1 b g c s1 ∧ Keeps (two b g) w w1 ∧ SpAt w1 (w.heap.size + 1) Sp.zero) := hid ⟨h1, hx.2.2.1.step k1 (fun i hi e => by rcases e with e | e; exact e; omega), hx.2.2.2.keeps k1 (by rintro ((e | e) | e) <;> omega)⟩
  clear hx hb h1 j1 k1 f1
  unfold Sp.v
  have hq := HZ.out.2.2
  have q0 := hq.c0
  have q1 := hq.c1
  have q2 := hq.c2
  have qf0 := hq.fr 0
  have qf1 := hq.fr 1
  have qf2 := hq.fr 2
  clear hq
  go_wp2_with fail
  refine bodyPost_ret (sp_ret rfl _ _ (w.heap.size + 1) _ (HZ.out.2.2.set3 tl tn tk) rfl) rfl ?_
  have ks := keeps_set3 w1 (w.heap.size + 1) tl tn tk
  have hb := HLB.out
  exact ⟨rfl, HZ.out.1.kept ks (by omega) (by omega), HZ.out.2.1.step ks (fun i hi e => by omega)⟩
theorem seek_r {b g c : Nat} {s : Wd} {l key e : Int} {t : Sp} {s1 : Wd} (heq : Hid (s.seek l key = ((t, e), s1))) (hce : s.c ≠ 0 ∨ s.f < 0) {w : World} (h : WdAt w b g c s) :
    Calls Try.prog 37 #[.iface 24 (.pointer (some ⟨b, 0, none⟩)), .int .u64 l, .int .u64 key] w fun r w' => r = .returned (.tuple #[t.v, .int .i64 e]) ∧ WdAt w' b g c s1 ∧ Keeps (two b g) w w' := by
  have hq := seek_any b g c s l key hce w h
  rw [heq.out] at hq
  exact hq
end Go.Proofs.Ytmnbilhblkobdaa
