
/- The statement's step (layer 20). No statement of the seat is proved here. -/
import Derived.Test.YthelfalmjihkdaaRmJ
namespace Go.Proofs.Ythelfalmjihkdaa
open Go.RowKit

set_option maxRecDepth 100000 in
set_option maxHeartbeats 4000000 in
theorem step_5 (t b g c b' g' c' : Nat) (s : Wd) (x y z : Int) (_hx : isW x) (_hy : isW y) (_hz : isW z) (w : World) (h : Bo w t b g c b' g' c' s s) :
    Calls Try.prog 5 #[.pointer (some ⟨t, 0, none⟩), .pointer (some ⟨b', 0, none⟩), .agg #[.int .i64 5, .int .u64 x, .int .u64 y, .int .u64 z]] w fun e w' => e = .returned (.bool true) ∧ ∃ s2, Bo w' t b g c b' g' c' s2 s2 ∧ Keeps (four b g b' g') w w' := by
  have HP := hid h.lt
  have HB0 : Hid (Bo (w.alloc (.cells #[.int .i64 5, .int .u64 x, .int .u64 y, .int .u64 z] 33)) t b g c b' g' c' s s) := h.new ((Keeps.refl _ w).alloc _)
  have HK0 : Hid (Keeps (four b g b' g') w (w.alloc (.cells #[.int .i64 5, .int .u64 x, .int .u64 y, .int .u64 z] 33))) := (Keeps.refl _ w).alloc _
  clear h
  have HG := hid (given_any t b g c s x y _ HB0.out.tw)
  have HLN := hid (given_len s x y)
  have HR : Hid (∀ X, WdAt X b' g' c' s → _) := fun X hX => rgiven_any b' g' c' s x y X hX
  obtain ⟨⟨⟨L, e1⟩, s2⟩, eq1⟩ : ∃ r, s.given x y = r := ⟨_, rfl⟩
  rw [eq1] at HG HR HLN
  clear eq1
  go_enter Try.func5, Try.ntmps5
  go_wp2_with fail
  refine HG.out.mono ?_
  rintro e_ w1 ⟨v1, rfl, r1, h1, k1⟩
  have HB1 := hid (HB0.out.own h1 k1)
  have HK1 := hid (HK0.out.f1 k1)
  have HR1 := hid r1
  have hbxa : w1.heap[w.heap.size]? = some _ := box_after k1 (fun e => by have q := HP.out; rcases e with e | e <;> omega)
  have da1 : w1.cell? ⟨w.heap.size, 1, none⟩ = some (.int .u64 x) := cell_of_block hbxa 1
  have da2 : w1.cell? ⟨w.heap.size, 2, none⟩ = some (.int .u64 y) := cell_of_block hbxa 2
  clear hbxa
  have HQ := hid (HR.out w1 HB1.out.rw)
  clear h1 k1 r1 HB0 HK0 HG HR
  go_wp2_with fail
  refine HQ.out.mono ?_
  rintro e_ w2 ⟨v2, rfl, r2, h2, k2⟩
  have HB2 := hid (HB1.out.ref h2 k2)
  have HK2 := hid (HK1.out.f2 k2)
  have hbs : ∀ q, two b' g' q → q < ((w.alloc (.cells #[.int .i64 5, .int .u64 x, .int .u64 y, .int .u64 z] 33))).heap.size := fun q e => by
    have p := HP.out
    have p2 : ((w.alloc (.cells #[.int .i64 5, .int .u64 x, .int .u64 y, .int .u64 z] 33))).heap.size = w.heap.size + 1 := by simp
    rcases e with rfl | rfl <;> omega
  have HW := hid (words_same v1 v2 L (by have q := HLN.out; omega) w2 (HR1.out.keeps k2 hbs).lies r2.lies)
  clear hbs
  clear h2 k2 r2 HB1 HK1 HQ HR1 HLN
  go_wp2_with (first | (go_at_call 6; refine HW.out.mono ?_; rintro e_ w3 ⟨rfl, m3, hw3⟩; subst hw3) | (go_at_call 10; refine (num_any _ _).mono ?_; rintro e_ w_ ⟨rfl, hw_⟩; subst w_))
  go_ret
  exact ⟨by simp, _, HB2.out.new ((Keeps.refl _ _).drewN _), HK2.out.drewN _⟩
end Go.Proofs.Ythelfalmjihkdaa
