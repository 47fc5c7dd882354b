/-
  No statement of the seat is proved here. (Several texts in one: OqQ, Bulk.)
-/
import Derived.Test.YtjmmjkoloioddaaDoorM37OqO
import Derived.Test.YtjmmjkoloioddaaDoorM38EvU
import Derived.SizedLaws
import Derived.Test.YtjmmjkoloioddaaDoorRows

/- How words that come in read (layer 16). No statement of the seat is proved here. -/
namespace Go.Proofs.YtjmmjkoloioddaaDoor
open Go.ChangeShapes Go.WideShapes Go.ChangeAt Go.RowKit Go.Shelf

theorem bytesU : Tryd.prog.bytesOf 35 = 8 := by kernel_rfl
set_option maxRecDepth 100000 in
/-- A slice of words that came in. -/
theorem open_wds {H : Type} {enc : TypeId × Value → H} {W : World} {v : Value} {d : DataW H} {ps : List MemPlace} {base : Nat} (hok : Value.okWide Tryd.prog W .any base 22 v) (h : DataW.Trod enc Tryd.prog W 0 (fun _ => true) true 22 v d ps) :
    ∃ ws : List Int, WsAt W v ws ∧ ((d = .nil ∧ ws = []) ∨ ∃ elems spare, d = .slice elems spare ∧ elems.length = ws.length) := by
  obtain ⟨a, len, cap, rfl⟩ := okWide_slice Tryd.underlying22 hok
  obtain ⟨fuel, hf⟩ := h
  rcases open_ints Tryd.underlying22 Tryd.underlying35 cellsU hf with ⟨hcs, hx⟩ | ⟨x, l, c, zs, hcs, _, hl, hm, hz, hx, hcell, hwz⟩
  · simp [Value.cells] at hcs
    obtain ⟨rfl, rfl, rfl⟩ := hcs
    exact ⟨[], ⟨none, 0, rfl, Nat.le_refl _, fun k hk => absurd hk (by simp)⟩, .inl ⟨(Prod.mk.inj hx).1, rfl⟩⟩
  · simp [Value.cells] at hcs
    obtain ⟨rfl, rfl, rfl⟩ := hcs
    simp at hz
    have hlen : (zs.take len).length = len := by simp; omega
    refine ⟨zs.take len, ?_, .inr ⟨_, _, (Prod.mk.inj hx).1, by simp [lits]⟩⟩
    refine ⟨some x, cap, by rw [hlen], by omega, fun i hi => ?_⟩
    have hi' : i < len := by omega
    have hc := hcell i (by omega)
    have hsp : x.spot = none := by
      have := hcell 0 (by omega)
      simp [Addr.add] at this
      exact cell_spot this
    obtain ⟨xb, xo, xs⟩ := x
    cases hsp
    rw [addr_add] at hc
    refine ⟨xb, xo, rfl, fun f y hy => ?_⟩
    have hf0 : f = 0 := by
      have := (List.getElem?_eq_some_iff.1 hy).1
      simp at this
      omega
    subst hf0
    simp only [List.getElem?_cons_zero, Option.some.injEq] at hy
    rw [Nat.mul_one, Nat.add_zero, hc, ← hy, List.getElem_take, List.getD_eq_getElem?_getD, List.getElem?_eq_getElem (by omega)]
    rfl
end Go.Proofs.YtjmmjkoloioddaaDoor


/-
  A slice among arguments of small bulk is short. No statement of the seat is proved here.
-/
namespace Go.Proofs.YtjmmjkoloioddaaDoor.bulks
open Go.Proofs.YtjmmjkoloioddaaDoor.Rows

theorem all_parts {H : Type} : ∀ l : List (DataW H), l.length ≤ uptoBulkAll l ∧ ∀ d, d ∈ l → uptoBulk d ≤ uptoBulkAll l
  | [] => ⟨Nat.zero_le _, fun _ h => nomatch h⟩
  | x :: r => by
    have hr := all_parts r
    have hx : 0 < uptoBulk x := by
      rcases x with (l | _ | _ | _ | _ | _ | _ | _)
      · cases l <;> simp [uptoBulk]
      all_goals simp [uptoBulk]
    refine ⟨by simp only [uptoBulkAll, List.length_cons]; omega, fun d hd => ?_⟩
    simp only [uptoBulkAll]
    rcases List.mem_cons.1 hd with rfl | hd
    · omega
    · have := hr.2 d hd
      omega
/-- The length of a slice that is handed in. -/
theorem slice_len {H : Type} {l : List (DataW H)} (hk : uptoSmall H l = true) {e s : List (DataW H)} (hm : .slice e s ∈ l) : e.length ≤ 1048576 := by
  have h1 := (all_parts l).2 _ hm
  have h2 := (all_parts e).1
  simp only [uptoSmall, decide_eq_true_eq] at hk
  simp only [uptoBulk] at h1
  omega
end Go.Proofs.YtjmmjkoloioddaaDoor.bulks
