
/- A part of what Program answers, taken out. No statement of the seat is proved here. -/
import Derived.Test.YtljapgoeomedkaaDoorChL
namespace Go.Proofs.YtljapgoeomedkaaDoor
open Go.RowKit Go.Shelf

@[go_sem] theorem field_err (c b : Int) (w : World) : (Instr.field 40 (.agg #[.int .i64 c, .int .i64 b]) 1).run Tryd.prog w = .ok (.int .i64 b) w := by
  have u4 := Tryd.underlying25
  have a4 := Tryd.isAgg25
  have z4 := Tryd.sizeOf25
  unfold Instr.field
  simp only [Sem.run_bind, run_underlying Tryd.underlying40, Result.andThen_ok]
  go_simp
  simp [asAgg]
end Go.Proofs.YtljapgoeomedkaaDoor
