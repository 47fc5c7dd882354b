
/- The statement's step (layer 20). No statement of the seat is proved here. -/
import Derived.Test.YthelfalmjihkdaaRmJ
namespace Go.Proofs.Ythelfalmjihkdaa
open Go.RowKit

set_option maxRecDepth 100000 in
set_option maxHeartbeats 4000000 in
theorem step_2 (t b g c b' g' c' : Nat) (s : Wd) (x y z : Int) (hx : isW x) (_hy : isW y) (_hz : isW z) (w : World) (h : Bo w t b g c b' g' c' s s) :
    Calls Try.prog 5 #[.pointer (some ⟨t, 0, none⟩), .pointer (some ⟨b', 0, none⟩), .agg #[.int .i64 2, .int .u64 x, .int .u64 y, .int .u64 z]] w fun e w' => e = .returned (.bool true) ∧ ∃ s2, Bo w' t b g c b' g' c' s2 s2 ∧ Keeps (four b g b' g') w w' := by
  have HP := hid h.lt
  have HB0 : Hid (Bo (w.alloc (.cells #[.int .i64 2, .int .u64 x, .int .u64 y, .int .u64 z] 33)) t b g c b' g' c' s s) := h.new ((Keeps.refl _ w).alloc _)
  have HK0 : Hid (Keeps (four b g b' g') w (w.alloc (.cells #[.int .i64 2, .int .u64 x, .int .u64 y, .int .u64 z] 33))) := (Keeps.refl _ w).alloc _
  clear h
  obtain ⟨⟨⟨r, e⟩, s2⟩, eq1⟩ : ∃ r, s.take x y = r := ⟨_, rfl⟩
  have HE : Hid (_ = _) := eq1
  clear eq1
  go_enter Try.func5, Try.ntmps5
  go_wp2_with fail
  have hh := HB0.out.tw
  refine (take_r HE hx hh).mono ?_
  rintro e_ w1 ⟨rfl, h1, k1⟩
  have HB1 := hid (HB0.out.own h1 k1)
  have HK1 := hid (HK0.out.f1 k1)
  have hbxa : w1.heap[w.heap.size]? = some _ := box_after k1 (fun e => by have q := HP.out; rcases e with e | e <;> omega)
  have da1 : w1.cell? ⟨w.heap.size, 1, none⟩ = some (.int .u64 x) := cell_of_block hbxa 1
  have da2 : w1.cell? ⟨w.heap.size, 2, none⟩ = some (.int .u64 y) := cell_of_block hbxa 2
  clear hbxa
  clear hh h1 k1 HB0 HK0
  go_wp2_with fail
  have hh := HB1.out.rw
  refine (rtake_r HE hx hh).mono ?_
  rintro e_ w2 ⟨rfl, h2, k2⟩
  have HB2 := hid (HB1.out.ref h2 k2)
  have HK2 := hid (HK1.out.f2 k2)
  clear hh h2 k2 HB1 HK1 HE
  go_wp2_with (go_at_call 10; refine (num_any _ _).mono ?_; rintro e_ w_ ⟨rfl, hw_⟩; subst w_)
  go_ret
  exact ⟨by simp, _, HB2.out, HK2.out⟩
end Go.Proofs.Ythelfalmjihkdaa
