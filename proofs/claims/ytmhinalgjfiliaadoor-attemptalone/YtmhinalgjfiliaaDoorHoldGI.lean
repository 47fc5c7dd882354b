
/-
  Get on a table that is in order. No statement of the seat is proved here.
-/
import Derived.Test.YtmhinalgjfiliaaDoorHoldI
import Derived.Test.YtmhinalgjfiliaaDoorGetI
namespace Go.Proofs.YtmhinalgjfiliaaDoor.I
open Go.RowKit Go.Shelf
theorem hold_get (b p : Nat) (K : List (Option Int)) (O : List Int) (vf : Int → Value) (Ow : Nat → Prop) (k : Int) (w : World) (h : Holds w b p K O vf Ow) (hw : Tz w) :
    Calls Tryd.prog 50 #[.pointer (some ⟨b, 0, none⟩), .int .u64 k] w fun e w' => e = .returned (.tuple #[if k ∈ O then vf k else Value.int .i64 0, .bool (decide (k ∈ O))]) ∧ w' = w := by
  obtain ⟨s, e0, bf, hG, hOw⟩ := h
  exact get_at b s e0 p K O bf vf k w hG hw
end Go.Proofs.YtmhinalgjfiliaaDoor.I
