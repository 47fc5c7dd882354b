
/- Walks of the word's functions on whole numbers: what each returns. No statement of the seat is proved here. -/
import Derived.Test.YtalopkllldnipaaProg
import Derived.Test.YtalopkllldnipaaBits
import Derived.WalkKit
import Derived.WalkSpells
import Derived.WalkLawsBesides
namespace Go.Proofs.Ytalopkllldnipaa
open Go.RowKit

theorem ret_of {v v' : Value} {w : World} (h : v = v') : Ending.returned v = .returned v' ∧ w = w := ⟨by rw [h], rfl⟩
theorem ret2_of {v v' u u' : Value} {w : World} (h : v = v') (k : u = u') : Ending.returned (.tuple #[v, u]) = .returned (.tuple #[v', u']) ∧ w = w := ⟨by rw [h, k], rfl⟩
theorem wrap_i64 (n : Int) : IntKind.i64.wrap n = (n + 9223372036854775808) % 18446744073709551616 - 9223372036854775808 := by
  simp only [IntKind.wrap, IntKind.bits, IntKind.signed]; simp; omega
theorem wrap_i32 (n : Int) : IntKind.i32.wrap n = (n + 2147483648) % 4294967296 - 2147483648 := by
  simp only [IntKind.wrap, IntKind.bits, IntKind.signed]; simp; omega
theorem wrap_u32 (n : Int) : IntKind.u32.wrap n = n % 4294967296 := by simp [IntKind.wrap, IntKind.bits, IntKind.signed]

/-- The word of a whole number, and back. -/
def ofI (x : Int) : Int := x + 9223372036854775808
def toI (w : Int) : Int := w - 9223372036854775808
/-- The word of a pair, and its halves. -/
def ofP (a b : Int) : Int := (a + 2147483648) * 4294967296 + (b + 2147483648)
def hiP (w : Int) : Int := w / 4294967296 - 2147483648
def loP (w : Int) : Int := w % 4294967296 - 2147483648
/-- Between two words. -/
def mid (a b : Int) : Int := if a ≤ b then a + (b - a) / 2 else b + (a - b) / 2

section
variable (x w a b : Int) (W : World)

end
end Go.Proofs.Ytalopkllldnipaa
