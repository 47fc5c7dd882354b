
/- The document's reply to a step, any kind (layer 21). No statement of the seat is proved here. -/
import Derived.Test.YtmnbilhblkobdaaLyXM
namespace Go.Proofs.Ytmnbilhblkobdaa
open Go.RowKit

theorem answer_any (v : Value) (K : List Int) (kind on key : Int) (sp : Bool) (hK : K.length ≤ 1000) (w : World) (hv : KR w v K) :
    Calls Try.prog 7 #[v, .agg #[.int .i64 kind, .int .i64 on, .int .u64 key], .bool sp] w (AnsP v K kind key sp w) := by
  by_cases k1 : kind = 1
  · subst k1; exact answer_1 v K on key sp hK w hv
  by_cases k2 : kind = 2
  · subst k2; exact answer_2 v K on key sp hK w hv
  by_cases k3 : kind = 3
  · subst k3; exact answer_3 v K on key sp hK w hv
  by_cases k4 : kind = 4
  · subst k4; exact answer_4 v K on key sp hK w hv
  by_cases k5 : kind = 5
  · subst k5; exact answer_5 v K on key sp hK w hv
  by_cases k6 : kind = 6
  · subst k6; exact answer_6 v K on key sp hK w hv
  by_cases k7 : kind = 7
  · subst k7; exact answer_7 v K on key sp hK w hv
  by_cases k8 : kind = 8
  · subst k8; exact answer_8 v K on key sp hK w hv
  by_cases k9 : kind = 9
  · subst k9; exact answer_9 v K on key sp hK w hv
  exact answer_0 v K kind on key sp hK w hv ⟨k1, k2, k3, k4, k5, k6, k7, k8, k9⟩
end Go.Proofs.Ytmnbilhblkobdaa
