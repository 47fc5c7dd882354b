
/- Lists of numbers; the commits of a history, its threads (pure); walks of Of, Threads, Same of both (packages events, parleyref13). No statement of the seat is proved here. -/
import Derived.Test.YtjmmjkoloioddaaDoorM17EvL
import Derived.Test.YtjmmjkoloioddaaDoorM14OpO
import Derived.Deep.QuietTactic
import Derived.BigQuiet
namespace Go.Proofs.YtjmmjkoloioddaaDoor
open Go.RowKit Go.Shelf

@[reducible] def Ci (x : Int) : List Value := [.int .i64 x]
theorem ci_len (x : Int) : (Ci x).length = 1 := rfl
theorem ci_ne (x : Int) : Ci x ≠ [] := by simp
theorem ci_one (x : Int) : ∀ u ∈ Ci x, u.oneCell' = true := by simp [Value.oneCell']
theorem info_int : (Tryd.prog.info? 3).map (fun i => (i.zero, i.size, i.bytes)) = some (some (.int .i64 0), 1, 8) := by kernel_rfl
/-- The places of the commits. -/
def commF : List Ev → Nat → List Int
  | [], _ => []
  | e :: h, k => if e.kd = 6 then (k : Int) :: commF h (k + 1) else commF h (k + 1)
theorem commF_len : ∀ (L : List Ev) (k : Nat), (commF L k).length ≤ L.length
  | [], _ => by simp [commF]
  | e :: h, k => by
    have := commF_len h (k + 1)
    unfold commF
    split <;> simp <;> omega
theorem filter_step {L : List Ev} {p : Ev → Bool} {k : Nat} (hk : k < L.length) : (L.take (k + 1)).filter p = (L.take k).filter p ++ if p (L[k]) = true then [L[k]] else [] := by
  rw [List.take_succ_eq_append_getElem hk, List.filter_append]
  congr 1
  cases h : p (L[k]) <;> simp [List.filter, h]
def thrS (n : Int) (e : Ev) : Int := if 0 ≤ e.th ∧ e.th ≤ 2147483647 then max n (e.th + 1) else n
def thrL (L : List Ev) : Int := L.foldl thrS 0
theorem thr_step {L : List Ev} {k : Nat} (hk : k < L.length) : thrL (L.take (k + 1)) = thrS (thrL (L.take k)) (L[k]) := by
  unfold thrL
  rw [List.take_succ_eq_append_getElem hk, List.foldl_append]; rfl
theorem eq_ty_self7 (a b c d e f g : Int) (w : World) : (Op.equalIn 10000 38 (.agg #[.int .i64 a, .int .i64 b, .int .i64 c, .int .u64 d, .int .i64 e, .int .i64 f, .int .i64 g]) (.agg #[.int .i64 a, .int .i64 b, .int .i64 c, .int .u64 d, .int .i64 e, .int .i64 f, .int .i64 g])).run Tryd.prog w = .ok true w := by
  have u3 := Tryd.underlying3
  have a3 := Tryd.isAgg3
  have z3 := Tryd.sizeOf3
  have u4 := Tryd.underlying36
  have a4 := Tryd.isAgg36
  have z4 := Tryd.sizeOf36
  have u5 := Tryd.underlying35
  have a5 := Tryd.isAgg35
  have z5 := Tryd.sizeOf35
  have hS : Tryd.prog.underlying 38 = some (.struct (Tryd.prog.fieldsOf 38)) := by kernel_rfl
  rw [show (10000 : Nat) = 9999 + 1 from rfl, run_equalIn_agg w 9999 38 _ _ hS (by kernel_rfl)]
  simp only [Program.fieldsOf, Tryd.underlying38]
  go_simp
end Go.Proofs.YtjmmjkoloioddaaDoor
