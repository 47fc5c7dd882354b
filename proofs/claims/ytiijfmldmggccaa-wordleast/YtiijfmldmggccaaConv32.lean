/- Small real numbers and the others: what is turned into what, and that the order stays. No statement of the seat is proved here. -/
import Derived.Test.YtiijfmldmggccaaMath32
import Derived.Test.YtiijfmldmggccaaNearR
namespace Go.Proofs.Ytiijfmldmggccaa
open Go.RowKit Ieee

/-- The rung of a small real number's rung. -/
def wd (r : Nat) : Nat := if r = 0 then 0 else if r = 2139095040 then 9218868437227405312 else (ex32 r + (mg32 r).log2 + 873) * 4503599627370496 + mg32 r * 2 ^ (52 - (mg32 r).log2)

theorem wd_parts {r : Nat} (h0 : r ≠ 0) (h : r < 2139095040) : ex (wd r) = ex32 r + (mg32 r).log2 + 873 ∧ mg (wd r) = mg32 r * 2 ^ (52 - (mg32 r).log2) ∧ (mg32 r).log2 ≤ 23 ∧ wd r < 9218868437227405312 ∧ 0 < wd r := by
  have hm : mg32 r ≠ 0 := by unfold mg32 ex32; omega
  have hl : (mg32 r).log2 < 24 := (Nat.log2_lt hm).2 (by rw [show (2:Nat) ^ 24 = 16777216 by rfl]; exact mg_lt32 r)
  obtain ⟨a1, a2⟩ := (log2_iff hm).1 (rfl : (mg32 r).log2 = (mg32 r).log2)
  have b1 : 2 ^ (mg32 r).log2 * 2 ^ (52 - (mg32 r).log2) ≤ mg32 r * 2 ^ (52 - (mg32 r).log2) := Nat.mul_le_mul_right _ a1
  have b2 : mg32 r * 2 ^ (52 - (mg32 r).log2) < 2 ^ ((mg32 r).log2 + 1) * 2 ^ (52 - (mg32 r).log2) := Nat.mul_lt_mul_of_pos_right a2 (Nat.two_pow_pos _)
  rw [← Nat.pow_add, show (mg32 r).log2 + (52 - (mg32 r).log2) = 52 by omega, show (2:Nat) ^ 52 = 4503599627370496 by rfl] at b1
  rw [← Nat.pow_add, show (mg32 r).log2 + 1 + (52 - (mg32 r).log2) = 53 by omega, show (2:Nat) ^ 53 = 9007199254740992 by rfl] at b2
  have hx : ex32 r ≤ 253 := by unfold ex32; omega
  have e : wd r = (ex32 r + (mg32 r).log2 + 873) * 4503599627370496 + mg32 r * 2 ^ (52 - (mg32 r).log2) := by
    unfold wd; rw [if_neg h0, if_neg (by omega)]
  have he : ex (wd r) = ex32 r + (mg32 r).log2 + 873 := by
    rw [e]; unfold ex
    generalize mg32 r * 2 ^ (52 - (mg32 r).log2) = k at *
    omega
  refine ⟨he, ?_, by omega, ?_, ?_⟩
  · unfold mg; rw [he, e]; omega
  · rw [e]; omega
  · rw [e]; omega

theorem wd_nearest (s : Bool) {r : Nat} (h : r < 2139095040) : double.nearest s (mg32 r) (-149 + (ex32 r : Nat)) = double.word s (wd r) := by
  by_cases z : r = 0
  · subst z
    rw [show mg32 0 = 0 from rfl, show wd 0 = 0 from if_pos rfl]
    unfold Format.nearest; rw [if_pos rfl]
  · obtain ⟨e1, e2, e3, e4, e5⟩ := wd_parts z h
    exact nearest_exact s _ _ (wd r) (52 - (mg32 r).log2) 0 e4 e5 (by rw [e2]; simp) (by rw [e1]; omega)

def far : Nat := 925
theorem wd_size {r : Nat} (h : r < 2139095040) : size (wd r) = size32 r * 2 ^ far := by
  by_cases z : r = 0
  · subst z; rw [show wd 0 = 0 from if_pos rfl]; unfold size size32; rw [show mg 0 = 0 from rfl, show mg32 0 = 0 from rfl, Nat.zero_mul, Nat.zero_mul, Nat.zero_mul]
  · obtain ⟨e1, e2, e3, _, _⟩ := wd_parts z h
    unfold size size32
    rw [e1, e2, Nat.mul_assoc, Nat.mul_assoc, ← Nat.pow_add, ← Nat.pow_add]
    rw [show 52 - (mg32 r).log2 + (ex32 r + (mg32 r).log2 + 873) = ex32 r + far by unfold far; omega]

theorem wd_lt {r : Nat} (h : r < 2139095040) : wd r < 9218868437227405312 := by
  by_cases z : r = 0
  · subst z; rw [show wd 0 = 0 from if_pos rfl]; omega
  · exact (wd_parts z h).2.2.2.1
theorem wd_inf : wd 2139095040 = 9218868437227405312 := by unfold wd; rw [if_neg (by omega), if_pos rfl]
theorem wd_le {r : Nat} (h : r ≤ 2139095040) : wd r ≤ 9218868437227405312 := by
  rcases Nat.lt_or_eq_of_le h with c | c
  · exact Nat.le_of_lt (wd_lt c)
  · rw [c, wd_inf]; omega
theorem wd_mono {r q : Nat} (h : r < q) (hq : q ≤ 2139095040) : wd r < wd q := by
  rcases Nat.lt_or_eq_of_le hq with c | c
  · rw [← size_inj_lt, wd_size c, wd_size (by omega)]
    exact Nat.mul_lt_mul_of_pos_right (size_lt32 h) (Nat.two_pow_pos _)
  · subst c; rw [wd_inf]; exact wd_lt h
theorem wd_zero : wd 0 = 0 := if_pos rfl

/-- What a small real number is turned into, and the world behind it; and back. -/
def c64 (y : Nat) (W : World) : Nat := if nan32 y = true then (Question.nanConv .f64 y).cut (W.tape W.drawn (.nanConv .f64 y)) else double.word (y / 2147483648 % 2 == 1) (wd (y % 2147483648))
def d64 (y : Nat) (W : World) : World := if nan32 y = true then W.drew else W
def c32 (b : Nat) (W : World) : Nat := match floatToFloatBits .f64 b .f32 with
  | some r => r
  | none => if nan b = true then (Question.nanConv .f32 b).cut (W.tape W.drawn (.nanConv .f32 b)) else (Question.floatToFloat b).cut (W.tape W.drawn (.floatToFloat b))
def d32 (b : Nat) (W : World) : World := if (floatToFloatBits .f64 b .f32).isSome = true then W else W.drew

theorem c64_num {y : Nat} (W : World) (n : nan32 y = false) : c64 y W = double.word (y / 2147483648 % 2 == 1) (wd (y % 2147483648)) ∧ d64 y W = W := by
  unfold c64 d64; rw [n]; exact ⟨if_neg (by simp), if_neg (by simp)⟩
theorem nanCut (y t : Nat) : nan ((Question.nanConv .f64 y).cut t) = true ∧ (Question.nanConv .f64 y).cut t < 18446744073709551616 := by
  have e : (Question.nanConv .f64 y).cut t = (t % 2) * 2 ^ 63 + 0x7ff0000000000000 + 1 + (t / 2) % (2 ^ 52 - 1) := rfl
  have hq : (t / 2) % (2 ^ 52 - 1) < 2 ^ 52 - 1 := Nat.mod_lt _ (by decide)
  have ht : t % 2 < 2 := Nat.mod_lt _ (by decide)
  rw [e]; unfold nan; simp only [decide_eq_true_eq]
  generalize (t / 2) % (2 ^ 52 - 1) = q at *
  generalize t % 2 = p at *
  obtain rfl | rfl : p = 0 ∨ p = 1 := by omega
  · omega
  · omega
theorem nan32_le {y : Nat} (n : nan32 y = false) : y % 2147483648 ≤ 2139095040 := by
  simp only [nan32, decide_eq_false_iff_not] at n; omega
theorem c64_nan {y : Nat} (W : World) (n : nan32 y = true) : nan (c64 y W) = true := by
  unfold c64; rw [n]; exact (nanCut y _).1
theorem c64_lt (y : Nat) (W : World) : c64 y W < 18446744073709551616 := by
  cases n : nan32 y
  · rw [(c64_num W n).1]
    have := wd_le (nan32_le n)
    exact (word_parts _ (by omega)).2.2.1
  · unfold c64; rw [n]; exact (nanCut y _).2
theorem c64_isnum {y : Nat} (W : World) (n : nan32 y = false) : nan (c64 y W) = false ∧ key (c64 y W) = sg (y / 2147483648 % 2 == 1) (wd (y % 2147483648)) := by
  rw [(c64_num W n).1]
  have := wd_le (nan32_le n)
  obtain ⟨_, _, _, p4, p5⟩ := word_parts (y / 2147483648 % 2 == 1) (r := wd (y % 2147483648)) (by omega)
  refine ⟨?_, p4⟩
  rw [p5]; simp; omega

theorem c32_lt {b : Nat} (W : World) (hb : b < 18446744073709551616) : c32 b W < 4294967296 := by
  unfold c32
  cases f : floatToFloatBits .f64 b .f32 with
  | some r =>
    have := floatToFloatBits_wf (wf_of_lt .f64 b hb) f
    simpa [Lit.wf] using this
  | none =>
    simp only
    split
    · have e : ∀ t, (Question.nanConv .f32 b).cut t = (t % 2) * 2 ^ 31 + 0x7f800000 + 1 + (t / 2) % (2 ^ 23 - 1) := fun _ => rfl
      rw [e]
      generalize W.tape W.drawn (.nanConv .f32 b) = t
      have hq : (t / 2) % (2 ^ 23 - 1) < 2 ^ 23 - 1 := Nat.mod_lt _ (by decide)
      have ht : t % 2 < 2 := Nat.mod_lt _ (by decide)
      omega
    · have e : ∀ t, (Question.floatToFloat b).cut t = t % 2 ^ 32 := fun _ => rfl
      rw [e]; omega

theorem run_f2f {src dst : TypeId} {s k : FloatKind} {b : Nat} (W : World) (hs : (Try.prog.underlying src).isSome = true) (hd : Try.prog.underlying dst = some (.float k)) : (convert src dst (.float s b)).run Try.prog W = (Conv.floatToFloat s b k).run Try.prog W := by
  obtain ⟨u, hs'⟩ := Option.isSome_iff_exists.1 hs
  cases u <;> simp [convert, run_underlying hs', run_underlying hd]

@[go_sem] theorem run_cv64 (y : Nat) (W : World) : (convert 53 32 (.float .f32 y)).run Try.prog W = .ok (.float .f64 (c64 y W)) (d64 y W) := by
  cases n : nan32 y
  · rw [run_convert_float_float W 53 32 .f32 .f64 y (c64 y W) (by kernel_rfl) (by kernel_rfl) ?_, (c64_num W n).2]
    unfold floatToFloatBits
    rw [if_neg (by decide)]
    have hd : FloatKind.decode .f32 y = single.read y := rfl
    rw [hd]
    rcases Nat.lt_or_eq_of_le (nan32_le n) with c | c
    · rw [read_num32 c]
      simp only
      have e : FloatKind.encode .f64 (.number (y / 2147483648 % 2 == 1) (mg32 (y % 2147483648)) (-149 + ((ex32 (y % 2147483648) : Nat) : Int))) = c64 y W := by
        rw [(c64_num W n).1]; exact wd_nearest _ c
      rw [e, if_neg]
      have hr := wd_lt c
      have := (word_parts (y / 2147483648 % 2 == 1) (r := wd (y % 2147483648)) (by omega)).2.1
      have hrd : FloatKind.decode .f64 (c64 y W) = double.read (c64 y W) := rfl
      rw [hrd, (c64_num W n).1, read_num (by rw [this]; exact hr)]
      simp [Datum.isInfinity]
    · rw [read_inf32 c]
      simp only
      rw [(c64_num W n).1, c, wd_inf]; rfl
  · rw [run_f2f (k := .f64) W (by kernel_rfl) (by kernel_rfl)]
    have hn := n
    simp only [nan32, decide_eq_true_eq] at hn
    obtain ⟨s, t, h⟩ := read_nan32 hn
    have hd : FloatKind.decode .f32 y = .nan s t := h
    unfold Conv.floatToFloat
    rw [if_neg (by decide), hd]
    simp only [Sem.run_bind, run_choose_drew, c64, d64, n, if_true]
    rfl

@[go_sem] theorem run_cv32 (b : Nat) (W : World) : (convert 32 53 (.float .f64 b)).run Try.prog W = .ok (.float .f32 (c32 b W)) (d32 b W) := by
  cases f : floatToFloatBits .f64 b .f32 with
  | some r =>
    rw [run_convert_float_float W 32 53 .f64 .f32 b r (by kernel_rfl) (by kernel_rfl) f]
    unfold c32 d32; rw [f]; rfl
  | none =>
    rw [run_f2f (k := .f32) W (by kernel_rfl) (by kernel_rfl)]
    unfold c32 d32; rw [f]
    unfold Conv.floatToFloat
    unfold floatToFloatBits at f
    rw [if_neg (by decide)] at f ⊢
    have hd : FloatKind.decode .f64 b = double.read b := rfl
    rw [hd] at f ⊢
    cases n : nan b
    · simp only [nan, decide_eq_false_iff_not] at n
      rcases Nat.lt_or_eq_of_le (Nat.not_lt.1 n) with c | c
      · rw [read_num c] at f ⊢
        simp only at f ⊢
        split at f
        · rename_i hi
          rw [if_pos hi]
          simp only [Sem.run_bind, run_choose_drew]; rfl
        · cases f
      · rw [read_inf c] at f; cases f
    · simp only [nan, decide_eq_true_eq] at n
      obtain ⟨s, t, h⟩ := read_nan n
      rw [h]
      simp only [Sem.run_bind, run_choose_drew]; rfl

/-- The place of a small real number in their order. -/
def ofR32 (b : Nat) : Int := if nan32 b = true then 4294967295 else if b < 2147483648 then (b : Int) + 2147483648 else 4294967295 - (b : Int)

theorem ofR32_key {a : Nat} (na : nan32 a = false) : ofR32 a = if a < 2147483648 then 2147483648 + key32 a else 2147483647 + key32 a := by
  unfold ofR32 key32; rw [na]; simp only [Bool.false_eq_true, if_false]
  split <;> omega
theorem ofR32_num {a : Nat} (ha : a < 4294967296) (na : nan32 a = false) : ofR32 a < 4294967295 := by
  have := nan32_le na
  rw [ofR32_key na]; unfold key32; split <;> omega

/-- The order stays. -/
theorem c64_order {y z : Nat} (hy : y < 4294967296) (hz : z < 4294967296) (W V : World) : ofR (c64 y W) < ofR (c64 z V) ↔ ofR32 y < ofR32 z := by
  cases n : nan32 y
  · obtain ⟨n1, k1⟩ := c64_isnum W n
    have s1 : (c64 y W < 9223372036854775808) ↔ y < 2147483648 := by
      rw [(c64_num W n).1]
      have := wd_le (nan32_le n)
      unfold Format.word
      by_cases c : y < 2147483648
      · rw [Nat.div_eq_of_lt c]; simp; omega
      · rw [show y / 2147483648 = 1 by omega]; simp [sw]; omega
    cases m : nan32 z
    · obtain ⟨n2, k2⟩ := c64_isnum V m
      have s2 : (c64 z V < 9223372036854775808) ↔ z < 2147483648 := by
        rw [(c64_num V m).1]
        have := wd_le (nan32_le m)
        unfold Format.word
        by_cases c : z < 2147483648
        · rw [Nat.div_eq_of_lt c]; simp; omega
        · rw [show z / 2147483648 = 1 by omega]; simp [sw]; omega
      rw [ofR_key n1, ofR_key n2, ofR32_key n, ofR32_key m, k1, k2, ← sg_key32 hy, ← sg_key32 hz]
      simp only [s1, s2]
      have l1 := nan32_le n
      have l2 := nan32_le m
      have t1 : (y / 2147483648 % 2 == 1) = !decide (y < 2147483648) := by
        by_cases c : y < 2147483648
        · rw [Nat.div_eq_of_lt c]; simp [c]
        · rw [show y / 2147483648 = 1 by omega]; simp [c]
      have t2 : (z / 2147483648 % 2 == 1) = !decide (z < 2147483648) := by
        by_cases c : z < 2147483648
        · rw [Nat.div_eq_of_lt c]; simp [c]
        · rw [show z / 2147483648 = 1 by omega]; simp [c]
      rw [t1, t2]
      generalize y % 2147483648 = r at *
      generalize z % 2147483648 = q at *
      have m1 : r < q → wd r < wd q := fun h => wd_mono h l2
      have m2 : q < r → wd q < wd r := fun h => wd_mono h l1
      have m3 : r = q → wd r = wd q := fun h => by rw [h]
      have m4 : wd 0 = 0 := wd_zero
      have m5 : 0 < r → 0 < wd r := fun h => by rw [← wd_zero]; exact wd_mono h l1
      have m6 : 0 < q → 0 < wd q := fun h => by rw [← wd_zero]; exact wd_mono h l2
      have m7 : r = 0 → wd r = 0 := fun h => by rw [h]; exact wd_zero
      have m8 : q = 0 → wd q = 0 := fun h => by rw [h]; exact wd_zero
      by_cases c1 : y < 2147483648 <;> by_cases c2 : z < 2147483648 <;> simp only [c1, c2, decide_true, decide_false, Bool.not_true, Bool.not_false, sg, if_true, if_false, Bool.false_eq_true] <;> omega
    · have e1 : ofR (c64 z V) = 18446744073709551615 := by unfold ofR; rw [c64_nan V m]; rfl
      have e2 : ofR32 z = 4294967295 := by unfold ofR32; rw [m]; rfl
      have h1 := ofR32_num hy n
      have h2 : ofR (c64 y W) < 18446744073709551615 := by
        have := key_bounds (c64_lt y W) n1
        rw [ofR_key n1]; split <;> omega
      rw [e1, e2]; omega
  · have e1 : ofR (c64 y W) = 18446744073709551615 := by unfold ofR; rw [c64_nan W n]; rfl
    have e2 : ofR32 y = 4294967295 := by unfold ofR32; rw [n]; rfl
    have h1 : ofR32 z ≤ 4294967295 := by unfold ofR32; (repeat' split) <;> omega
    have h2 : ofR (c64 z V) ≤ 18446744073709551615 := by have := ofR_bounds _ (c64_lt z V); omega
    rw [e1, e2]; omega
end Go.Proofs.Ytiijfmldmggccaa
