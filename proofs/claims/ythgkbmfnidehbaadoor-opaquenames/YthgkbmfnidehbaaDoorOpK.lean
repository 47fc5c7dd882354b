
/- The library's sort at rows of any width; the blocks by their last places. No statement of the seat is proved here. -/
import Derived.Test.YthgkbmfnidehbaaDoorOpG
import Derived.Test.YthgkbmfnidehbaaDoorLayG
import Derived.Sort.OwnSortedInts
namespace Go.Proofs.YthgkbmfnidehbaaDoor
open Go.RowKit Go.Shelf Go.Sort

section
variable {α : Type} [Inhabited α]
theorem flatK_flatV {c : α → List Value} {sz : Nat} (hz : 0 < sz) (hc : ∀ x, (c x).length = sz) (L : List α) : (flatK c sz L.toArray).toList = flatV c L := by
  apply List.ext_getElem?
  intro t
  by_cases ht : t < L.length * sz
  · have hq : t / sz < L.length := (Nat.div_lt_iff_lt_mul hz).2 ht
    have e : t = t / sz * sz + t % sz := by rw [Nat.mul_comm]; exact (Nat.div_add_mod t sz).symm
    have h1 := flatV_at hc L (t / sz) (t % sz) hq (Nat.mod_lt _ hz)
    rw [← e] at h1
    rw [h1]
    have h2 : (flatK c sz L.toArray)[t]! = (c (L.toArray[t / sz]!))[t % sz]! := get_flatK _ _ _ t (by simpa using ht)
    rw [getElem!_pos _ t (by simpa using ht)] at h2
    rw [Array.getElem?_toList, Array.getElem?_eq_getElem (by simpa using ht), h2, getElem!_pos L.toArray (t / sz) (by simpa using hq)]
    have hm : t % sz < (c (L[t / sz])).length := by rw [hc]; exact Nat.mod_lt _ hz
    rw [List.getElem_toArray, getElem!_pos (c (L[t / sz])) (t % sz) hm, List.getElem?_eq_getElem hm]
  · rw [List.getElem?_eq_none (by simp; omega), List.getElem?_eq_none (by rw [flatV_len hc]; omega)]
theorem holdsK_own {c : α → List Value} {sz : Nat} (hz : 0 < sz) (hc : ∀ x, (c x).length = sz) {w : World} {base g cap n : Nat} {t : TypeId} {L : List α} (h : OwnR c sz t w base (.slice (some ⟨g, 0, none⟩) n cap) L) : HoldsK c sz w g 0 L.toArray := by
  unfold HoldsK Holds
  intro j hj
  rw [size_flatK] at hj
  simp only [List.size_toArray] at hj
  rcases h.own.2 with ⟨q, _⟩ | ⟨g3, cap3, cur3, q1, q2, q3, q4, q5, q6, q7⟩
  · cases q
  · have e2 : g = g3 := by injection q1 with q; injection q with q; injection q
    subst e2
    refine ⟨?_, frozen_of_block q3 _⟩
    rw [Nat.zero_add, cell_of_block q3, ← Array.getElem?_toList, ← List.getElem?_take_of_lt (show j < L.length * sz by omega), q7, ← flatK_flatV hz hc, Array.getElem?_toList, Array.getElem?_eq_getElem (by simpa using hj), getElem!_pos _ j (by simpa using hj)]
    rfl
theorem own_sortedK {c : α → List Value} {sz : Nat} (hz : 0 < sz) (hc : ∀ x, (c x).length = sz) {w : World} {base g cap n m : Nat} {t : TypeId} {L M : List α} {os : Array Obj} (hl : M.length = L.length) (h : OwnR c sz t w base (.slice (some ⟨g, 0, none⟩) n cap) L) : OwnR c sz t (sortWorldK c sz w g 0 m M.toArray os) base (.slice (some ⟨g, 0, none⟩) n cap) M ∧ Keeps (fun q => q = g) w (sortWorldK c sz w g 0 m M.toArray os) := by
  have hk : Keeps (fun q => q = g) w (sortWorldK c sz w g 0 m M.toArray os) := by
    unfold sortWorldK putRowK
    refine ⟨rfl, rfl, rfl, by simp, fun k hk hne => ?_⟩
    rw [heap_grow_old _ _ (by simpa using hk)]
    have : g ≠ k := fun e => hne e.symm
    simp [putRow, mapBlock, Sort.ahead, Array.getElem?_modify, this]
  refine ⟨?_, hk⟩
  rcases h.own.2 with ⟨q, _⟩ | ⟨g3, cap3, cur3, q1, q2, q3, q4, q5, q6, q7⟩
  · cases q
  · injection q1 with e1 e2 e3
    injection e1 with e1
    injection e1 with e1
    subst e1 e2 e3
    have hb : (sortWorldK c sz w g 0 m M.toArray os).heap[g]? = some (.cells (putCells id 0 (flatK c sz M.toArray) cur3) t (0, 0)) := by
      unfold sortWorldK putRowK
      have hg := lt_of_block q3
      rw [heap_grow_old _ _ (by simpa using hg)]
      simp [putRow, mapBlock, Sort.ahead, Array.getElem?_modify, q3, onCells]
    refine ⟨⟨flatV_len hc M, .inr ⟨g, cap, _, by rw [hl], q2, hb, by rw [hl]; exact q4, q5, by simp [putCells, q6], ?_⟩⟩, Nat.le_trans h.base hk.size⟩
    have hle : M.length * sz ≤ cur3.size := by rw [q6, hl]; exact Nat.mul_le_mul_right _ q4
    rw [← flatK_flatV hz hc M]
    apply List.ext_getElem?
    intro j
    by_cases hj : j < M.length * sz
    · rw [List.getElem?_take_of_lt hj, Array.getElem?_toList, Array.getElem?_toList]
      have h9 : j < (flatK c sz M.toArray).size := by simpa using hj
      simp only [putCells, Array.getElem?_mapIdx]
      rw [Array.getElem?_eq_getElem (by omega), Array.getElem?_eq_getElem h9]
      simp only [Option.map_some, Nat.zero_le, true_and, Nat.zero_add, Nat.sub_zero]
      rw [if_pos h9, getElem!_pos _ j h9]; rfl
    · rw [List.getElem?_take_eq_none (by omega), List.getElem?_eq_none (by simp; omega)]
end
def laC (x y : Bx) : Int := cmpI x.p.la y.p.la
set_option maxRecDepth 100000 in
set_option maxHeartbeats 4000000 in
theorem cmpBB_at (x y : Bx) (w : World) : Calls Tryd.prog 28 #[.agg #[.int .i64 x.p.th, .int .i64 x.p.kd, .int .i64 x.p.fi, .int .i64 x.p.la, .int .u64 x.p.nu, .bool x.p.wr, .int .i64 x.p.er, .slice x.r.a x.r.n x.r.c, .slice x.s.a x.s.n x.s.c], .agg #[.int .i64 y.p.th, .int .i64 y.p.kd, .int .i64 y.p.fi, .int .i64 y.p.la, .int .u64 y.p.nu, .bool y.p.wr, .int .i64 y.p.er, .slice y.r.a y.r.n y.r.c, .slice y.s.a y.s.n y.s.c]] w fun ex w' => ex = .returned (.int .i64 (cmpI x.p.la y.p.la)) ∧ w' = (w.alloc (.cells #[.int .i64 x.p.th, .int .i64 x.p.kd, .int .i64 x.p.fi, .int .i64 x.p.la, .int .u64 x.p.nu, .bool x.p.wr, .int .i64 x.p.er, .slice x.r.a x.r.n x.r.c, .slice x.s.a x.s.n x.s.c] 58)).alloc (.cells #[.int .i64 y.p.th, .int .i64 y.p.kd, .int .i64 y.p.fi, .int .i64 y.p.la, .int .u64 y.p.nu, .bool y.p.wr, .int .i64 y.p.er, .slice y.r.a y.r.n y.r.c, .slice y.s.a y.s.n y.s.c] 58) := by
  have CM := fun X => cmpN_any x.p.la y.p.la X
  generalize cmpI x.p.la y.p.la = z at *
  go_enter Tryd.func28, Tryd.ntmps28
  go_wp2_with fail
  refine (CM _).mono ?_
  rintro ex w2 ⟨rfl, rfl⟩
  go_wp2_with fail
  go_ret
  exact ⟨rfl, rfl⟩
theorem ltLa (x y : Bx) : ltOf laC x y = decide (x.p.la < y.p.la) := by
  unfold ltOf laC
  rw [Bool.eq_iff_iff, decide_eq_true_eq, decide_eq_true_eq, cmpI_lt]
theorem swoLa : SWO (ltOf laC) where
  irrefl x := by rw [ltLa]; simp
  trans x y z h1 h2 := by rw [ltLa] at *; simp at *; omega
  ntrans x y z h1 h2 := by rw [ltLa] at *; simp at *; omega
theorem sortB_any {w : World} {base : Nat} {v : Value} (Z : List Bx) (hl : Z.length ≤ 1200000) (h : OwnR Bx.cb 9 58 w base v Z) :
    Calls Tryd.prog 27 #[v, .func (.func 28) #[] #[]] w fun e w' => e = .returned (.tuple #[]) ∧ ∃ Y : List Bx, OwnR Bx.cb 9 58 w' base v Y ∧ Y.Perm Z ∧ Y.Pairwise (fun p q => p.p.la ≤ q.p.la) ∧ Keeps (fun q => v.ownBlock = some q) w w' := by
  haveI : Inhabited Bx := ⟨⟨pt0, sl0, sl0⟩⟩
  by_cases hL : Z = []
  · subst hL
    obtain ⟨b, cp, rfl⟩ := h.form
    refine (AnyF.slices_SortFunc_none (P := Tryd.prog) (ρ := laysF6_ren) laysF6 b cp _ w).mono fun e w' ⟨h1, h2⟩ => ?_
    subst h2
    exact ⟨h1, [], h, .refl _, List.Pairwise.nil, Keeps.refl _ _⟩
  · have hlen : 0 < Z.length := List.length_pos_iff.2 hL
    obtain ⟨g, cap, cur, rfl, hbg, hgb, hgs⟩ := h.at hlen
    have hH := holdsK_own (by decide) cb_len h
    have eg : ∀ args w, (callFunc 28 args).run Tryd.prog w = .ok (.enter 28 args) w := enters_of Tryd.func28 (by kernel_rfl) rfl
    have hcmp : CmpLays Tryd.prog 28 #[] Bx.cb 9 laC g 0 Z.toArray.size w := fun m os dk hs x y => by
      refine (cmpBB_at x y _).mono fun ex w' ⟨h1, h2⟩ => ?_
      rw [alloc_eq_grow, alloc_eq_grow, grow_grow] at h2
      exact ⟨h1, 0, _, h2⟩
    have hsz : Z.toArray.size = Z.length := by simp
    have C := AnyQ.slices_SortFunc (P := Tryd.prog) (ρ := laysF6_ren) laysF6 9 Tryd.isAgg58 Tryd.sizeOf58 Bx.cb cb_len cb_one laC swoLa 28 #[] g 0 cap Z.toArray w eg hcmp hH (lt_of_block hgb) (by rw [hsz]; omega)
    rw [hsz] at C
    refine C.mono fun e w' ⟨h1, d', n, os, hp, hs, hw⟩ => ?_
    obtain ⟨hz1, _, hperm⟩ := hp
    rw [hsz] at hz1
    have e1 : d'.extract 0 Z.length = d' := by rw [← hz1]; exact Array.extract_size
    have e2 : Z.toArray.extract 0 Z.length = Z.toArray := by rw [← hsz]; exact Array.extract_size
    rw [e1, e2] at hperm
    have hdl : d'.toList.length = Z.length := by simpa using hz1
    have hso := own_sortedK (c := Bx.cb) (sz := 9) (by decide) cb_len (m := n) (os := os) (M := d'.toList) hdl h
    rw [show d'.toList.toArray = d' by simp, ← hw] at hso
    refine ⟨h1, d'.toList, hso.1, by simpa using hperm, ?_, hso.2.mono fun q _ e => by rw [e]; rfl⟩
    rw [List.pairwise_iff_getElem]
    intro i j hi hj hij
    have hi' : i < d'.size := by simpa using hi
    have hj' : j < d'.size := by simpa using hj
    have := hs i j (Nat.zero_le _) hij (by omega)
    rw [getElem!_pos d' j hj', getElem!_pos d' i hi', ltLa] at this
    simp only [decide_eq_false_iff_not, Int.not_lt] at this
    simpa using this
end Go.Proofs.YthgkbmfnidehbaaDoor
