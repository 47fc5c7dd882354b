/-
  No statement of the seat is proved here. (Several texts in one: AsV, AyL.)
-/
import Derived.Test.YtppejcfghlpbjaaGreatDoorCards
import Derived.Test.YtppejcfghlpbjaaGreatDoorTie
import Derived.Test.YtppejcfghlpbjaaGreatDoorM07AsN
import Derived.ProofKit
import Derived.OpenShut
import Derived.Deep.DeepHandedRow
import Derived.Lib.LaidTab
import Derived.Shelf.Vars
import Derived.Test.YtppejcfghlpbjaaGreatDoorM14AyB
import Derived.Stop.LaidErr

/- What the seat's rows list: the program's table of names and the library's tables, in the world in which a call begins, and a world that holds them. No statement of the seat is proved here. -/
namespace Go.Proofs.YtppejcfghlpbjaaGreatDoor
open Go.ChangeShapes Go.WideShapes Go.ChangeAt Go.RowKit Go.Shelf

theorem own : ownKnob Tryz.prog.godebug = none := by kernel_rfl
theorem gNames : Tryz.prog.globalNamed "parley/code.names" = some 0 := by kernel_rfl
theorem gNamesType : (Tryz.prog.globals[0]?).map (·.type) = some 136 := by kernel_rfl
theorem cellsNames : Tryz.prog.cellsOf 136 = 18 := by kernel_rfl
theorem cellsStr : Tryz.prog.cellsOf 9 = 1 := by kernel_rfl

/-- An array of strings that reads as a list of texts holds these, cell for cell. -/
theorem cells_of_strs {H : Type} {enc : TypeId × Value → H} {P : Program} {w : World} {base : Nat} {sp : Nat → Bool} {held : Bool} {fuel : Nat} {t e : TypeId} {n : Nat} {cs : List Value} {zs : List (List UInt8)} {p : List MemPlace}
    (ht : P.underlying t = some (.array n e)) (he : P.underlying e = some .string) (hce : P.cellsOf e = 1) (hct : P.cellsOf t = n)
    (h : DataW.trod enc P w base sp held fuel t cs = some (.agg (zs.map fun z => .lit (.string z)), p)) : cs = zs.map fun (z : List UInt8) => Value.string ⟨z.toArray⟩ := by
  cases fuel with
  | zero => simp [DataW.trod] at h
  | succ fuel =>
    simp only [DataW.trod, ht, hce, hct, Nat.mul_one] at h
    split at h
    · rename_i hl
      obtain ⟨xs, hm, hx⟩ := Option.map_eq_some_iff.1 h
      have hxs : xs.map (·.1) = zs.map fun z => (DataW.lit (.string z) : DataW H) := by
        have := congrArg Prod.fst hx
        simpa using this
      have hxl : xs.length = n := by simpa using Lib.mapM_length hm
      have hzl : zs.length = n := by
        have := congrArg List.length hxs
        simp at this
        omega
      apply List.ext_getElem?
      intro i
      by_cases hi : i < n
      · obtain ⟨b, hb, hf⟩ := Lib.mapM_at hm i i (by simp [hi])
        obtain ⟨z, hc, rfl, _⟩ := DataW.trod_string he hf
        have h1 : cs[i]? = some (.string z) := by
          have := congrArg (·[0]?) hc
          simpa [List.getElem?_take, List.getElem?_drop] using this
        have h2 : (xs.map (·.1))[i]? = some (DataW.lit (.string z.data.toList) : DataW H) := by simp [hb]
        rw [hxs] at h2
        simp only [List.getElem?_map, Option.map_eq_some_iff, DataW.lit.injEq, Lit.string.injEq] at h2
        obtain ⟨z', hz', hzz⟩ := h2
        rw [h1, List.getElem?_map, hz', hzz]
        rfl
      · rw [List.getElem?_eq_none (by omega), List.getElem?_eq_none (by simp; omega)]
    · cases h

theorem laid_tail {P : Program} {w : World} {x : String × DataW Unit} {r : List (String × DataW Unit)} {ps : List MemPlace} (h : DataW.LaidVars P w (x :: r) ps) : ∃ q, DataW.LaidVars P w r q := by
  obtain ⟨g, t, cs, fuel, p, q, _, _, _, _, h6, _⟩ := h
  exact ⟨q, h6⟩
theorem nms_vars {W : World} {rest : List (String × DataW Unit)} {ps : List MemPlace} (h : DataW.LaidVars Tryz.prog W (("parley/code.names", Rows.laid_parley_code_names) :: rest) ps) : Nms W := by
  obtain ⟨g', t', cs, fuel, p, q, hg', ht', hvar, hd, _, _⟩ := h
  obtain rfl := Option.some.inj (gNames.symm.trans hg')
  obtain rfl := Option.some.inj (gNamesType.symm.trans ht')
  have hc := cells_of_strs (zs := nms) Tryz.underlying136 Tryz.underlying9 cellsStr cellsNames hd
  intro i hi
  have h1 := World.var?_cell gNames hvar i
  rw [h1]
  have h2 : cs[i]? = cs.toList[i]? := by simp
  have hn : i < nms.length := hi
  rw [h2, hc, List.getElem?_map, List.getElem?_eq_getElem hn, nm, List.getElem?_eq_getElem hn]
  rfl

theorem max_of {W : World} (h : W.ShapedOpen Tryz.prog) : ∃ m, W.cell? ⟨lays147_ren.g 1, 0, none⟩ = some (.int .i64 m) :=
  cell_of_shapedOpen_int (zero := #[.int .i64 0]) (t := 3) h (of_decide_eq_true (by kernel_rfl)) (by kernel_rfl) rfl (by kernel_rfl) (by kernel_rfl) Tryz.underlying3

/-- The cells of a datum: numbers and texts, and rows of these. -/
def litV : Lit → Value
  | .int k z => .int k z
  | .string l => .string ⟨l.toArray⟩
  | .bool b => .bool b
  | _ => undef
def flat1 : DataW Unit → List Value
  | .lit l => [litV l]
  | .agg ds => ds.map fun
    | .lit l => litV l
    | _ => undef
  | _ => []
def flat2 : DataW Unit → List Value
  | .agg ds => ds.flatMap flat1
  | _ => []
def layAt (cs : List Value) : Obj → Obj
  | .cells _ t frozen => .cells cs.toArray t frozen
  | o => o
/-- A world for the witness: the settled one, the tables holding what their initialisers lay. -/
noncomputable def laidWorld (os : Os) : World :=
  { World.holding Tryz.prog os ⟨#[], #[], []⟩ with heap := (((World.holding Tryz.prog os ⟨#[], #[], []⟩).heap.modify 0 (layAt (flat1 Rows.laid_parley_code_names))).modify 7 (layAt (flat1 Rows.laid_unicode_utf8_first))).modify 8 (layAt (flat2 Rows.laid_unicode_utf8_acceptRanges)) }
theorem cellsU : Tryz.prog.cellsOf 40 = 1 := by kernel_rfl
theorem gPowType : (Tryz.prog.globals[2]?).map (·.type) = some 162 := by kernel_rfl
theorem gPow' : Tryz.prog.globalNamed "internal/strconv.uint64pow10" = some 2 := by kernel_rfl
theorem cellsP : Tryz.prog.cellsOf 162 = 20 := by kernel_rfl
theorem pow_vars {W : World} {rest : List (String × DataW Unit)} {ps : List MemPlace} (h : DataW.LaidVars Tryz.prog W (("internal/strconv.uint64pow10", Rows.laid_internal_strconv_uint64pow10) :: rest) ps) : Lib.TabIs Tryz.prog W "internal/strconv.uint64pow10" .u64 Lib.pow10Tab := by
  obtain ⟨g', t', cs, fuel, p, q, hg', ht', hvar, hd, _, _⟩ := h
  obtain rfl := Option.some.inj (gPow'.symm.trans hg')
  obtain rfl := Option.some.inj (gPowType.symm.trans ht')
  unfold Lib.TabIs
  rw [hvar, ← Lib.cells_of_tab (zs := Lib.pow10Tab) Tryz.underlying162 Tryz.underlying40 cellsU cellsP hd]
/-- What a row's list gives. -/
theorem gp_of {W : World} (h : laidMetH Tryz.prog [("math/bits.deBruijn32tab", Rows.laid_math_bits_deBruijn32tab), ("math/bits.deBruijn64tab", Rows.laid_math_bits_deBruijn64tab), ("internal/strconv.uint64pow10", Rows.laid_internal_strconv_uint64pow10), ("unicode/utf8.acceptRanges", Rows.laid_unicode_utf8_acceptRanges), ("parley/code.names", Rows.laid_parley_code_names), ("unicode/utf8.first", Rows.laid_unicode_utf8_first)] W) (hs : W.ShapedOpen Tryz.prog) : Gp W := by
  have h' : laidMet Tryz.prog [("math/bits.deBruijn32tab", Rows.laid_math_bits_deBruijn32tab), ("math/bits.deBruijn64tab", Rows.laid_math_bits_deBruijn64tab), ("internal/strconv.uint64pow10", Rows.laid_internal_strconv_uint64pow10), ("unicode/utf8.acceptRanges", Rows.laid_unicode_utf8_acceptRanges), ("parley/code.names", Rows.laid_parley_code_names), ("unicode/utf8.first", Rows.laid_unicode_utf8_first)] W := h
  obtain ⟨ps, hv, _⟩ := h'
  obtain ⟨q, hv⟩ := laid_tail hv
  obtain ⟨q, hv⟩ := laid_tail hv
  have hp := pow_vars hv
  obtain ⟨q, hv⟩ := laid_tail hv
  obtain ⟨q, hv⟩ := laid_tail hv
  exact ⟨⟨nms_vars hv, max_of hs⟩, hp⟩
noncomputable def laidWorldT (os : Os) : World :=
  { laidWorld os with heap := (((laidWorld os).heap.modify 2 (layAt (flat1 Rows.laid_internal_strconv_uint64pow10))).modify 3 (layAt (flat1 Rows.laid_math_bits_deBruijn32tab))).modify 4 (layAt (flat1 Rows.laid_math_bits_deBruijn64tab)) }
end Go.Proofs.YtppejcfghlpbjaaGreatDoor


/- What the seat's rows list: the program's table of names, the library's tables and the library's two errors, in the world in which a call begins, and a world that holds them. No statement of the seat is proved here. -/
namespace Go.Proofs.YtppejcfghlpbjaaGreatDoor
open Go.ChangeShapes Go.WideShapes Go.ChangeAt Go.RowKit Go.Shelf

theorem gSy : Tryz.prog.globalNamed "strconv.ErrSyntax" = some 5 := by kernel_rfl
theorem gSyT : (Tryz.prog.globals[5]?).map (·.type) = some 59 := by kernel_rfl
theorem gRg : Tryz.prog.globalNamed "strconv.ErrRange" = some 6 := by kernel_rfl
theorem gRgT : (Tryz.prog.globals[6]?).map (·.type) = some 59 := by kernel_rfl
theorem cellsEs : Tryz.prog.cellsOf 202 = 1 := by kernel_rfl
theorem star : "*" ++ "errors.errorString" = "*errors.errorString" := by decide
theorem rowEs (u : TypeId) (h : Tryz.prog.typeName? 3 u = some "*errors.errorString") : u = 200 :=
  typeName_ptr_named (nm := "errors.errorString") (by rw [star]; kernel_rfl) (by kernel_rfl) (by decide) u (by rw [star]; exact h)
theorem gAr : Tryz.prog.globalNamed "unicode/utf8.acceptRanges" = some 8 := by kernel_rfl
abbrev laidQ : List (String × DataW Unit) := [("math/bits.deBruijn32tab", Rows.laid_math_bits_deBruijn32tab), ("math/bits.deBruijn64tab", Rows.laid_math_bits_deBruijn64tab), ("internal/strconv.uint64pow10", Rows.laid_internal_strconv_uint64pow10), ("unicode/utf8.acceptRanges", Rows.laid_unicode_utf8_acceptRanges), ("strconv.ErrRange", Rows.laid_strconv_ErrRange), ("strconv.ErrSyntax", Rows.laid_strconv_ErrSyntax), ("parley/code.names", Rows.laid_parley_code_names), ("unicode/utf8.first", Rows.laid_unicode_utf8_first)]
/-- What a row's list gives. -/
theorem gq_of {W : World} (h : laidMetH Tryz.prog laidQ W) (hs : W.ShapedOpen Tryz.prog) : Gq W ∧ 9 ≤ W.heap.size := by
  have h' : laidMet Tryz.prog laidQ W := h
  have t4 := h'.tail.tail.tail.tail
  obtain ⟨a1, s1, v1, _⟩ := laid_sentinel (nm := "*errors.errorString") t4 gRg gRgT Tryz.underlying59 rowEs Tryz.underlying200 Tryz.underlying202 rfl rfl Tryz.underlying9 cellsEs cellsStr
  obtain ⟨a2, s2, v2, _⟩ := laid_sentinel (nm := "*errors.errorString") t4.tail gSy gSyT Tryz.underlying59 rowEs Tryz.underlying200 Tryz.underlying202 rfl rfl Tryz.underlying9 cellsEs cellsStr
  obtain ⟨ps, hv, _⟩ := h'
  obtain ⟨q, hv⟩ := laid_tail hv
  obtain ⟨q, hv⟩ := laid_tail hv
  have hp := pow_vars hv
  obtain ⟨q, hv⟩ := laid_tail hv
  have hn : 9 ≤ W.heap.size := by
    obtain ⟨g', t', cs, fuel, p, q, hg', ht', hvar, hd, _, _⟩ := hv
    unfold World.var? at hvar
    rw [gAr, Option.bind_some] at hvar
    rcases Nat.lt_or_ge 8 W.heap.size with h' | h'
    · exact h'
    · rw [Array.getElem?_eq_none h'] at hvar; cases hvar
  obtain ⟨q, hv⟩ := laid_tail hv
  obtain ⟨q, hv⟩ := laid_tail hv
  obtain ⟨q, hv⟩ := laid_tail hv
  exact ⟨⟨⟨⟨nms_vars hv, max_of hs⟩, hp⟩, ⟨_, _, by simpa using World.var?_cell gSy v2 0⟩, ⟨_, _, by simpa using World.var?_cell gRg v1 0⟩⟩, hn⟩
noncomputable def lowQ : Nat := (World.holding Tryz.prog default ⟨#[], #[], []⟩).heap.size
abbrev rgS : ByteArray := ⟨#[118, 97, 108, 117, 101, 32, 111, 117, 116, 32, 111, 102, 32, 114, 97, 110, 103, 101]⟩
abbrev syS : ByteArray := ⟨#[105, 110, 118, 97, 108, 105, 100, 32, 115, 121, 110, 116, 97, 120]⟩
/-- A world for the witness: the settled one, the variables holding what their initialisers lay. -/
noncomputable def laidWorldQ (os : Os) : World :=
  let w0 := World.holding Tryz.prog os ⟨#[.cells #[.string rgS] 202, .cells #[.string syS] 202], #[], []⟩
  { w0 with heap := (((((((w0.heap.modify 6 (layAt [.iface 200 (.pointer (some ⟨lowQ, 0, none⟩))])).modify 5 (layAt [.iface 200 (.pointer (some ⟨lowQ + 1, 0, none⟩))])).modify 2 (layAt (flat1 Rows.laid_internal_strconv_uint64pow10))).modify 3 (layAt (flat1 Rows.laid_math_bits_deBruijn32tab))).modify 4 (layAt (flat1 Rows.laid_math_bits_deBruijn64tab))).modify 0 (layAt (flat1 Rows.laid_parley_code_names))).modify 7 (layAt (flat1 Rows.laid_unicode_utf8_first))).modify 8 (layAt (flat2 Rows.laid_unicode_utf8_acceptRanges)) }
end Go.Proofs.YtppejcfghlpbjaaGreatDoor
