
/-
  Walks of the program's leave, free and Take. No statement of the seat is proved here.
-/
import Derived.Test.YtmhinalgjfiliaaDoorPutI
namespace Go.Proofs.YtmhinalgjfiliaaDoor.I
open Go.RowKit

/-- A scope that runs through two pieces of code to its one label, and jumps back to it. -/
theorem wp_scope_loop2 {P : Program} {a : Act} {w : World} {Q : Exit → Act → World → Prop} {A B R : Code} (l : Nat) (J : Act → World → Prop) (μ : Act → World → Nat) (hf : findLabel (A.seq (B.seq ((Code.label l).seq R))) l = some (Code.skip.seq R))
    (first : A.wp P (Exit.then (fun a w => B.wp P (Exit.then J (fun _ _ _ => False)) a w) (fun _ _ _ => False)) a w) (pass : ∀ a w, J a w → R.wp P (Exit.jump l (fun a' w' => J a' w' ∧ μ a' w' < μ a w) Q) a w) :
    (Code.scope (A.seq (B.seq ((Code.label l).seq R)))).wp P Q a w := by
  refine wp_scope_jumps l J μ hf ?_ ?_
  · refine wp_seq (wp_mono first ?_)
    intro e a' w' he
    cases e with
    | normal =>
      refine wp_seq (wp_mono he ?_)
      intro e a3 w3 h3
      cases e with
      | normal =>
        refine wp_seq (wp_label ?_)
        exact wp_mono (pass a3 w3 h3) (fun e a2 w2 h2 => by
          cases e with
          | goto l' => exact ⟨h2.1, h2.2.1⟩
          | normal => exact h2
          | exit id => exact h2
          | ret => exact h2
          | panic ch => exact h2
          | outgrown => exact h2)
      | goto l' => exact False.elim h3
      | exit id => exact False.elim h3
      | ret => exact False.elim h3
      | panic ch => exact False.elim h3
      | outgrown => exact False.elim h3
    | goto l' => exact False.elim he
    | exit id => exact False.elim he
    | ret => exact False.elim he
    | panic ch => exact False.elim he
    | outgrown => exact False.elim he
  · intro a' w' hJ
    exact wp_seq (wp_skip (pass a' w' hJ))

/-- What holds at the label of free. -/
def FreeJ (w : World) (b s e0 n D i : Nat) (h : Int → Nat) (K : List (Option Int)) (O : List Int) (bf : Int → Nat) (vf : Int → Value) (a' : Act) (w' : World) : Prop :=
  ∃ (j x g : Nat) (u5 u6 u7 u8 u9 u10 u11 u12 u13 u14 u15 u16 u17 u18 u19 u20 u21 u22 u23 u24 u25 u26 u27 u28 u29 u30 u31 u32 u33 u34 u35 u36 u37 u38 u39 u40 u41 u42 u43 u44 u45 u46 u47 u48 u49 u50 u51 u52 u53 : Value), j < D ∧ Hid (x = wrapN n (i + j)) ∧ Hid (g = (shiftN n h K i j).2) ∧ TabAt kinds w' b s e0 (shiftN n h K i j).1 O bf vf ∧ Keeps (fun k => k = s) w w' ∧
    a' = { tmps := #[.pointer (some ⟨b, 0, none⟩), .int .i64 x, undef, undef, .int .i64 g, u5, u6, u7, u8, u9, u10, u11, u12, u13, u14, u15, u16, u17, u18, u19, u20, u21, u22, u23, u24, u25, u26, u27, u28, u29, u30, u31, u32, u33, u34, u35, u36, u37, u38, u39, u40, u41, u42, u43, u44, u45, u46, u47, u48, u49, u50, u51, u52, u53], defers := [] }

theorem erase_filter : ∀ (O : List Int) (i : Nat), O.Nodup → i < O.length → O.eraseIdx i = O.filter (fun k => decide (k ≠ oat O i)) := by
  intro O
  induction O with
  | nil => intro i _ h; simp at h
  | cons a O ih =>
    intro i hd hi
    rw [List.nodup_cons] at hd
    cases i with
    | zero =>
      have h0 : oat (a :: O) 0 = a := rfl
      rw [h0, List.eraseIdx_zero, List.tail_cons, List.filter_cons_of_neg (by simp)]
      rw [List.filter_eq_self.2]
      intro k hk
      simp
      rintro rfl
      exact hd.1 hk
    | succ i =>
      simp at hi
      have hs : oat (a :: O) (i + 1) = oat O i := by simp [oat]
      rw [hs, List.eraseIdx_cons_succ, List.filter_cons_of_pos, ih i hd.2 hi]
      simp
      rintro rfl
      exact hd.1 (oat_mem hi)

end Go.Proofs.YtmhinalgjfiliaaDoor.I
