
/- Walks of Parse and Labels (package asm). No statement of the seat is proved here. -/
import Derived.Test.YtkkmkfldldglgaaGreatDoorAsN
namespace Go.Proofs.YtkkmkfldldglgaaGreatDoor
open Go.RowKit Go.Shelf

/-- What Parse answers. -/
def PrPost (s : List UInt8) (w : World) (e : Ending) (w' : World) : Prop := match readT s with
  | (n, some (code, _)) => ∃ vc, e = .returned (.tuple #[vc, .int .i64 (n : Int), .int .i64 0]) ∧ Irs w' w.heap.size vc code ∧ (∀ i ∈ code, i.wf)
  | (n, none) => e = .returned (.tuple #[.slice none 0 0, .int .i64 (n : Int), .int .i64 190])
/-- What Labels answers. -/
def LbPost (s : List UInt8) (w : World) (e : Ending) (w' : World) : Prop := match readT s with
  | (n, some (_, labs)) => ∃ vl, e = .returned (.tuple #[vl, .int .i64 (n : Int), .int .i64 0]) ∧ w'.ownsRow w.heap.size 39 2 vl labs.length (labV labs)
  | (n, none) => e = .returned (.tuple #[.slice none 0 0, .int .i64 (n : Int), .int .i64 190])

set_option maxRecDepth 100000 in
set_option maxHeartbeats 2000000 in
theorem aparse_any (s : List UInt8) (hs : s.length ≤ 268435456) (w : World) (hw : Gl w) : Calls Tryz.prog 10 #[.string ⟨s.toArray⟩] w fun e w' => PrPost s w e w' ∧ Keeps (fun _ => False) w w' := by
  have RD := read_any s hs w hw
  unfold PrPost
  unfold RdPost at RD
  generalize readT s = q at *
  obtain ⟨n, o⟩ := q
  cases o with
  | none =>
    dsimp only at RD ⊢
    go_enter Tryz.func10, Tryz.ntmps10
    go_wp2_with fail
    refine RD.mono ?_
    rintro e w1 ⟨rfl, k1⟩
    have kk := k1.alloc (.cells #[.slice none 0 0, .slice none 0 0, .map none, .slice none 0 0] 73)
    go_wp2_with fail
    go_ret3
    exact ⟨rfl, kk⟩
  | some q =>
    obtain ⟨code, labs⟩ := q
    dsimp only at RD ⊢
    go_enter Tryz.func10, Tryz.ntmps10
    go_wp2_with fail
    refine RD.mono ?_
    rintro e w1 ⟨⟨vc, vl, m, ub, un, uc, rfl, h1, h2, h3, h4⟩, k1⟩
    obtain ⟨cb, cc, rfl⟩ := h1.form
    obtain ⟨lb, ln, lc, rfl⟩ := own_form h2
    have kk := k1.alloc (.cells #[.slice cb code.length cc, .slice lb ln lc, .map (some m), .slice ub un uc] 73)
    have h1' := h1.keeps ((Keeps.refl (fun _ => False) w1).alloc (.cells #[.slice cb code.length cc, .slice lb ln lc, .map (some m), .slice ub un uc] 73)) (fun _ _ f => f)
    clear h1 h2
    go_wp2_with fail
    go_ret3
    exact ⟨⟨_, rfl, h1', h4⟩, kk⟩
set_option maxRecDepth 100000 in
set_option maxHeartbeats 2000000 in
theorem labels_any (s : List UInt8) (hs : s.length ≤ 268435456) (w : World) (hw : Gl w) : Calls Tryz.prog 11 #[.string ⟨s.toArray⟩] w fun e w' => LbPost s w e w' ∧ Keeps (fun _ => False) w w' := by
  have RD := read_any s hs w hw
  unfold LbPost
  unfold RdPost at RD
  generalize readT s = q at *
  obtain ⟨n, o⟩ := q
  cases o with
  | none =>
    dsimp only at RD ⊢
    go_enter Tryz.func11, Tryz.ntmps11
    go_wp2_with fail
    refine RD.mono ?_
    rintro e w1 ⟨rfl, k1⟩
    have kk := k1.alloc (.cells #[.slice none 0 0, .slice none 0 0, .map none, .slice none 0 0] 73)
    go_wp2_with fail
    go_ret3
    exact ⟨rfl, kk⟩
  | some q =>
    obtain ⟨code, labs⟩ := q
    dsimp only at RD ⊢
    go_enter Tryz.func11, Tryz.ntmps11
    go_wp2_with fail
    refine RD.mono ?_
    rintro e w1 ⟨⟨vc, vl, m, ub, un, uc, rfl, h1, h2, h3, h4⟩, k1⟩
    obtain ⟨cb, cc, rfl⟩ := h1.form
    obtain ⟨lb, ln, lc, rfl⟩ := own_form h2
    have kk := k1.alloc (.cells #[.slice cb code.length cc, .slice lb ln lc, .map (some m), .slice ub un uc] 73)
    have h1' := own_keeps h2 ((Keeps.refl (fun _ => False) w1).alloc (.cells #[.slice cb code.length cc, .slice lb ln lc, .map (some m), .slice ub un uc] 73)) (fun _ _ f => f)
    clear h1 h2
    go_wp2_with fail
    go_ret3
    exact ⟨⟨_, rfl, h1'⟩, kk⟩
end Go.Proofs.YtkkmkfldldglgaaGreatDoor
