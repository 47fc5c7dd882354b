
/- The walks of room's functions (layer 24). No statement of the seat is proved here. -/
import Derived.Test.YthlbeohogfjamaaRkDM
namespace Go.Proofs.Ythlbeohogfjamaa
open Go.RowKit

set_option maxHeartbeats 2000000 in
theorem left_any (b g c : Nat) (s : Wd) (a : Int) (ha : isW a) (w : World) (h : WdAt w b g c s) :
    Calls Try.prog 20 #[.iface 24 (.pointer (some ⟨b, 0, none⟩)), .int .u64 a] w fun e w' => e = .returned (.tuple #[.int .u64 (s.lft a).1.1, .int .i64 (s.lft a).1.2]) ∧ WdAt w' b g c (s.lft a).2 ∧ Keeps (two b g) w w' := by
  have mg := meth_get b
  have mp := meth_put b
  have ng := nil_get b
  have np := nil_put b
  have oks : s.Ok := h.ok
  have HH := hid h
  clear h
  obtain ⟨⟨⟨x, y, e⟩, s1⟩, eq1⟩ : ∃ r, s.free a = r := ⟨_, rfl⟩
  have hs : s.lft a = ((y, e), s1) := by
    unfold Wd.lft
    simp [eq1]
  rw [hs]
  have HE1 : Hid (_ = _) := eq1
  clear hs eq1
  have kk : Hid (Keeps (two b g) w w) := Keeps.refl _ w
  go_enter Try.func20, Try.ntmps20
  go_wp2_with fail
  have hh := HH.out
  refine (unused_r HE1 ha hh).mono ?_
  rintro e_ w1 ⟨rfl, h1, k1⟩
  replace HH := hid h1
  replace kk := hid (kk.out.trans k1)
  clear hh h1 k1
  go_wp2_with fail
  go_ret2
  exact ⟨rfl, HH.out, kk.out⟩
theorem left_r {b g c : Nat} {s : Wd} {a x1 e1 : Int} {s1 : Wd} (heq : Hid (s.lft a = ((x1, e1), s1))) (ha : isW a) {w : World} (h : WdAt w b g c s) :
    Calls Try.prog 20 #[.iface 24 (.pointer (some ⟨b, 0, none⟩)), .int .u64 a] w fun e w' => e = .returned (.tuple #[.int .u64 x1, .int .i64 e1]) ∧ WdAt w' b g c s1 ∧ Keeps (two b g) w w' := by
  have q := left_any b g c s a ha w h
  rw [heq.out] at q
  exact q
end Go.Proofs.Ythlbeohogfjamaa
