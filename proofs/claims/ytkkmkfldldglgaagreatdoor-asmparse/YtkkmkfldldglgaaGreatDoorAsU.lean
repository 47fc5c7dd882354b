
/- Walk of known (the law's small text). No statement of the seat is proved here. -/
import Derived.Test.YtkkmkfldldglgaaGreatDoorAsO
import Derived.Test.YtkkmkfldldglgaaGreatDoorAsT
namespace Go.Proofs.YtkkmkfldldglgaaGreatDoor
open Go.RowKit Go.Shelf

def knownS : List UInt8 := [97, 58, 32, 103, 101, 116, 32, 48, 32, 49, 32, 59, 32, 120, 10, 32, 106, 117, 109, 112, 32, 97]
def knownL : List UInt8 := [112, 48, 58, 32, 103, 101, 116, 32, 48, 32, 49, 10, 106, 117, 109, 112, 32, 112, 48, 10]
def knownC : List I5 := (((readT knownS).2).getD ([], [])).1
def knownB : List (List UInt8 × Nat) := (((readT knownS).2).getD ([], [])).2
theorem known_read : readT knownS = (2, some (knownC, knownB)) := by kernel_rfl
theorem known_len : knownC.length = 2 := by kernel_rfl
theorem known_all : knownC.all formedB = true := by kernel_rfl
theorem known_list : listL knownC = knownL := by kernel_rfl
theorem known_one : knownC[1]'(by rw [known_len]; decide) = ⟨8, 0, 0, 0, 0⟩ := by kernel_rfl

set_option maxRecDepth 100000 in
set_option maxHeartbeats 2000000 in
theorem known_any (w : World) (hw : Gp w) : Calls Tryz.prog 9 #[] w fun e w' => e = .returned (.bool true) ∧ Keeps (fun _ => False) w w' := by
  have AP := aparse_any knownS (by decide) w hw.gl
  unfold PrPost at AP
  rw [known_read] at AP
  dsimp only at AP
  have HLS : Hid (∀ X v, Keeps (fun _ => False) w X → InsAt X v knownC → Calls Tryz.prog 17 #[v] X fun e X' => e = .returned (.tuple #[.string ⟨#[112, 48, 58, 32, 103, 101, 116, 32, 48, 32, 49, 10, 106, 117, 109, 112, 32, 112, 48, 10]⟩, .int .i64 0]) ∧ Keeps (fun _ => False) X X') := fun X v hX hi =>
    (list_any v knownC (by rw [known_len]; decide) X (hw.keeps hX) hi).mono fun e X' ⟨h1, h2⟩ => ⟨(h1.1 known_all).trans (by rw [known_list]; rfl), h2⟩
  go_enter Tryz.func9, Tryz.ntmps9
  go_wp2_with fail
  refine AP.mono ?_
  rintro e w1 ⟨⟨vc, rfl, hi, hwf⟩, k1⟩
  have hin := hi.insAt hwf (by rw [known_len]; decide)
  obtain ⟨cb, cc, rfl⟩ := hi.form
  have LS := HLS.out w1 _ k1 hin
  rw [known_len] at LS hin
  clear AP HLS hi hwf
  rw [known_len]
  go_wp2_with fail
  refine LS.mono ?_
  rintro e w2 ⟨rfl, k2⟩
  obtain ⟨g, off, cap, hv, x0, x1, x2, x3, x4⟩ := (hin.keeps k2).at 1 (by rw [known_len]; decide)
  simp only [Value.slice.injEq] at hv
  obtain ⟨rfl, -, rfl⟩ := hv
  rw [known_one] at x0 x1 x2 x3 x4
  dsimp only at x0 x1 x2 x3 x4
  have kk := k1.trans k2
  clear LS hin
  go_wp2_with fail
  go_ret
  exact ⟨rfl, kk⟩
end Go.Proofs.YtkkmkfldldglgaaGreatDoor
