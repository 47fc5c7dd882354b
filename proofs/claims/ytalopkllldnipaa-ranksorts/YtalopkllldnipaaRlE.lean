
/- The library's sort at pointers to trees (layer 24). No statement of the seat is proved here. -/
import Derived.Test.YtalopkllldnipaaRlD
import Derived.Test.YtalopkllldnipaaLayG
import Derived.Lib.OwnBridge
namespace Go.Proofs.Ytalopkllldnipaa
open Go.RowKit Go.Shelf Go.Sort

section
variable {α : Type} [Inhabited α]
theorem sort_row (enc : α → Value) {w : World} {base g cap n m : Nat} {e : TypeId} {xs : List Value} {os : Array Obj} (d : Array α) (hd : d.size = n) (h : w.ownsRow base e 1 (.slice (some ⟨g, 0, none⟩) n cap) n xs) :
    (sortWorld enc w g 0 m d os).ownsRow base e 1 (.slice (some ⟨g, 0, none⟩) n cap) n (d.toList.map enc) ∧ Keeps (fun q => q = g) w (sortWorld enc w g 0 m d os) := by
  have hk : Keeps (fun q => q = g) w (sortWorld enc w g 0 m d os) := by
    unfold sortWorld
    refine ⟨rfl, rfl, rfl, by simp [putRow, mapBlock, Sort.ahead], fun k hk hne => ?_⟩
    rw [heap_grow_old _ _ (by simpa [putRow, mapBlock, Sort.ahead] using hk)]
    have : g ≠ k := fun e => hne e.symm
    simp [putRow, mapBlock, Sort.ahead, Array.getElem?_modify, this]
  refine ⟨?_, hk⟩
  rcases h.2 with ⟨q, _⟩ | ⟨g3, cap3, cur3, q1, q2, q3, q4, q5, q6, q7⟩
  · cases q
  · injection q1 with e1 e2 e3
    injection e1 with e1
    injection e1 with e1
    subst e1 e3
    have hb : (sortWorld enc w g 0 m d os).heap[g]? = some (.cells (putCells enc 0 d cur3) e (0, 0)) := by
      unfold sortWorld
      have hg := lt_of_block q3
      rw [heap_grow_old _ _ (by simpa [putRow, mapBlock, Sort.ahead] using hg)]
      simp [putRow, mapBlock, Sort.ahead, Array.getElem?_modify, q3, onCells]
    refine ⟨by simp [hd], .inr ⟨g, cap, _, rfl, q2, hb, q4, q5, by simp [putCells, q6], ?_⟩⟩
    have hle : n ≤ cur3.size := by omega
    apply List.ext_getElem?
    intro j
    by_cases hj : j < n
    · rw [List.getElem?_take_of_lt (by omega), Array.getElem?_toList]
      have hjd : j < d.size := by omega
      have hjc : j < cur3.size := by omega
      simp [putCells, hjd, hjc]
    · rw [List.getElem?_take_eq_none (by omega), List.getElem?_eq_none (by simp; omega)]
theorem holds_row (enc : α → Value) {w : World} {base g cap n : Nat} {e : TypeId} (d : Array α) (hd : d.size = n) (h : w.ownsRow base e 1 (.slice (some ⟨g, 0, none⟩) n cap) n (d.toList.map enc)) : Holds enc w g 0 d := by
  intro j hj
  have hq := World.ownsRow.cellAt h j (by omega)
  rcases h.2 with ⟨q, _⟩ | ⟨g3, cap3, cur3, q1, q2, q3, q4, q5, q6, q7⟩
  · cases q
  · injection q1 with e1 e2 e3
    injection e1 with e1
    injection e1 with e1
    subst e1
    refine ⟨?_, frozen_of_block q3 _⟩
    rw [Nat.zero_add, hq]
    simp [hj]
end
theorem swoE (N : Nat) (f : Fin N → Int × Int) : SWO (ltOf (fun a b : Fin N => cfE (f a) (f b))) := by
  have hl : ∀ x y, ltOf (fun a b : Fin N => cfE (f a) (f b)) x y = decide (befE (f x) (f y)) := fun x y => by
    unfold ltOf
    rw [decide_eq_decide]
    exact cfE_lt _ _
  refine ⟨fun x => ?_, fun x y z p q => ?_, fun x y z p q => ?_⟩
  · rw [hl]; simp [befE]
  · rw [hl, decide_eq_true_eq] at p q ⊢
    unfold befE at p q ⊢
    omega
  · rw [hl, decide_eq_false_iff_not] at p q ⊢
    unfold befE at p q ⊢
    omega
set_option maxRecDepth 100000 in
set_option maxHeartbeats 4000000 in
theorem sortT_any {w : World} {base : Nat} {v : Value} {qs : List Nat} {F : List Tr} (hr : Pr w base v qs) (hlen : qs.length = F.length) (hl : F.length < 3000000000) (hhi : ∀ (i q : Nat), qs[i]? = some q → base ≤ q) (ht : ∀ (i q : Nat) (t : Tr), qs[i]? = some q → F[i]? = some t → TrAt w q t) :
    Calls Try.prog 48 #[v, .func (.func 49) #[] #[]] w fun r w' => r = .returned (.tuple #[]) ∧ ∃ (qs' : List Nat) (F' : List Tr), Pr w' base v qs' ∧ qs'.length = F'.length ∧ (∀ (i q : Nat), qs'[i]? = some q → base ≤ q) ∧ (∀ (i q : Nat) (t : Tr), qs'[i]? = some q → F'[i]? = some t → TrAt w' q t) ∧ F'.Perm F ∧ F'.Pairwise (fun a b => ¬ befE b.ent a.ent) ∧ Keeps (fun q => v.ownBlock = some q) w w' := by
  by_cases hL : F = []
  · subst hL
    have hq : qs = [] := List.length_eq_zero_iff.1 hlen
    subst hq
    obtain ⟨b, cp, rfl⟩ := hr.form
    refine (AnyF.slices_SortFunc_none (P := Try.prog) (ρ := laysF6_ren) { laysF6 with } b cp _ w).mono fun e w' ⟨h1, h2⟩ => ?_
    subst h2
    exact ⟨h1, [], [], hr, rfl, hhi, ht, .refl _, List.Pairwise.nil, Keeps.refl _ _⟩
  have hpos : 0 < F.length := List.length_pos_iff.2 hL
  obtain ⟨N, hN⟩ : ∃ N, F.length = N := ⟨_, rfl⟩
  have hqN : qs.length = N := by omega
  haveI : Inhabited (Fin N) := ⟨⟨0, by omega⟩⟩
  obtain ⟨gv, cap, cur, rfl, hbg, hgb⟩ : ∃ g cap cur, v = .slice (some ⟨g, 0, none⟩) qs.length cap ∧ base ≤ g ∧ w.heap[g]? = some (.cells cur 104 (0, 0)) := by
    rcases hr.2 with ⟨_, h2⟩ | ⟨g, cap, cur, q1, q2, q3, _⟩
    · omega
    · exact ⟨g, cap, cur, q1, q2, q3⟩
  have eg : ∀ args w, (callFunc 49 args).run Try.prog w = .ok (.enter 49 args) w := enters (by kernel_rfl)
  let qf : Fin N → Nat := fun i => qs[i.val]'(by have := i.isLt; omega)
  let tf : Fin N → Tr := fun i => F[i.val]'(by have := i.isLt; omega)
  let enc : Fin N → Value := fun i => ptrV (qf i)
  have htf : ∀ i : Fin N, TrAt w (qf i) (tf i) := fun i => ht i.val _ _ (List.getElem?_eq_getElem _) (List.getElem?_eq_getElem _)
  have hd : (Array.ofFn (fun i : Fin N => i)).size = qs.length := by simp [hqN]
  have hmq : (Array.ofFn (fun i : Fin N => i)).toList.map enc = qs.map ptrV := by
    apply List.ext_getElem
    · simp [hqN]
    · intro i h1 h2
      simp [enc, qf]
  have hrow : w.ownsRow base 104 1 (.slice (some ⟨gv, 0, none⟩) qs.length cap) qs.length ((Array.ofFn (fun i : Fin N => i)).toList.map enc) := by rw [hmq]; exact hr
  have hcmp : CmpLays1 Try.prog 49 #[] enc (fun a b : Fin N => cfE (tf a).ent (tf b).ent) gv 0 (Array.ofFn (fun i : Fin N => i)).size w := fun m os dk hs x y => by
    have ks := (sort_row enc (os := os) (m := m) dk (hs.trans hd) hrow).2
    have nx : ∀ i : Fin N, ¬ (qf i = gv) := fun i => ne_ty (htf i).blk hgb (by decide)
    have hx := (htf x).kept ks (nx x)
    have hy := (htf y).kept ks (nx y)
    exact compare_any (qf x) (qf y) (tf x).ent (tf y).ent _ hx.cells.2.1 hx.cells.2.2.1 hy.cells.2.1 hy.cells.2.2.1
  have C := Any.slices_SortFunc laysF6 enc (fun _ => rfl) (fun a b : Fin N => cfE (tf a).ent (tf b).ent) (swoE N fun i => (tf i).ent) 49 #[] gv 0 cap (Array.ofFn (fun i : Fin N => i)) w eg hcmp (holds_row enc _ hd hrow) (lt_of_block hgb) (by rw [hd]; omega)
  rw [hd] at C
  refine C.mono fun e w' ⟨h1, d', n, os, hp, hs, hw⟩ => ?_
  obtain ⟨hz1, _, hperm⟩ := hp
  rw [hd] at hz1
  have e1 : d'.extract 0 qs.length = d' := by rw [← hz1]; exact Array.extract_size
  have e2 : (Array.ofFn (fun i : Fin N => i)).extract 0 qs.length = Array.ofFn (fun i : Fin N => i) := by rw [← hd]; exact Array.extract_size
  rw [e1, e2] at hperm
  have hso := sort_row enc (os := os) (m := n) d' hz1 hrow
  rw [← hw] at hso
  have hdl : d'.toList.length = qs.length := by simpa using hz1
  have hFm : (Array.ofFn (fun i : Fin N => i)).toList.map tf = F := by
    apply List.ext_getElem
    · simp [hN]
    · intro i h1 h2
      simp [tf]
  refine ⟨h1, d'.toList.map qf, d'.toList.map tf, ?_, by simp, fun i q hq => ?_, fun i q t hq ht2 => ?_, ?_, ?_, hso.2.mono fun q _ e => by rw [e]; rfl⟩
  · have q := hso.1
    have e3 : d'.toList.map enc = (d'.toList.map qf).map ptrV := by simp [enc]
    unfold Pr
    rw [List.length_map, hdl, ← e3]
    exact q
  · rw [List.getElem?_map] at hq
    obtain ⟨j, _, rfl⟩ := Option.map_eq_some_iff.1 hq
    exact hhi j.val _ (List.getElem?_eq_getElem _)
  · rw [List.getElem?_map] at hq ht2
    obtain ⟨j, hj, rfl⟩ := Option.map_eq_some_iff.1 hq
    rw [hj] at ht2
    simp only [Option.map_some, Option.some.injEq] at ht2
    subst ht2
    exact (htf j).kept hso.2 (ne_ty (htf j).blk hgb (by decide))
  · have := hperm.map tf
    rw [hFm] at this
    exact this
  · rw [List.pairwise_iff_getElem]
    intro i j hi hj hij
    simp only [List.length_map] at hi hj
    have hi' : i < d'.size := by simpa using hi
    have hj' : j < d'.size := by simpa using hj
    have := hs i j (Nat.zero_le _) hij (by omega)
    rw [getElem!_pos d' j hj', getElem!_pos d' i hi'] at this
    unfold ltOf at this
    rw [decide_eq_false_iff_not, cfE_lt] at this
    simpa using this
end Go.Proofs.Ytalopkllldnipaa
