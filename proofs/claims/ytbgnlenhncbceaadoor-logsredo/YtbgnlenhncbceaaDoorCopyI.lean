
/-
  The program's Copy. No statement of the seat is proved here.
-/
import Derived.Test.YtbgnlenhncbceaaDoorComingNI
import Derived.Test.YtbgnlenhncbceaaDoorHoldI
namespace Go.Proofs.YtbgnlenhncbceaaDoor
/-- Of the slots, those that hold one of these keys. -/
def maskO (P : List Int) : Option Int → Option Int
  | none => none
  | some k => if k ∈ P then some k else none
def maskN (K : List (Option Int)) (P : List Int) : List (Option Int) := K.map (maskO P)
theorem mask_len (K : List (Option Int)) (P : List Int) : (maskN K P).length = K.length := by simp [maskN]
theorem sl_get {K : List (Option Int)} {y : Nat} (h : y < K.length) : K[y]? = some (sl K y) := by simp [sl, h]
theorem mask_nil (K : List (Option Int)) : maskN K [] = List.replicate K.length none := by
  unfold maskN
  rw [List.eq_replicate_iff]
  refine ⟨by simp, fun o ho => ?_⟩
  obtain ⟨q, _, rfl⟩ := List.mem_map.1 ho
  cases q <;> simp [maskO]
theorem mask_snoc {K : List (Option Int)} {P : List Int} {j : Nat} {x : Int} (hj : sl K j = some x) (hi : ∀ y, sl K y = some x → y = j) : maskN K (P ++ [x]) = (maskN K P).set j (some x) := by
  apply List.ext_getElem?
  intro y
  have hl := lt_of_sl hj
  by_cases hy : y < K.length
  · rw [List.getElem?_set]
    unfold maskN
    rw [List.getElem?_map, List.getElem?_map, sl_get hy]
    by_cases e : j = y
    · subst e
      rw [if_pos rfl, if_pos (by simpa using hl), hj]
      simp [maskO]
    · rw [if_neg e]
      cases hs : sl K y with
      | none => rfl
      | some q =>
        have : q ≠ x := fun eq => e (hi y (by rw [hs, eq])).symm
        simp [maskO, this]
  · rw [List.getElem?_eq_none (by rw [mask_len]; omega), List.getElem?_eq_none (by rw [List.length_set, mask_len]; omega)]
theorem mask_all {K : List (Option Int)} {P : List Int} (h : ∀ y k, sl K y = some k → k ∈ P) : maskN K P = K := by
  apply List.ext_getElem?
  intro y
  unfold maskN
  rw [List.getElem?_map]
  by_cases hy : y < K.length
  · rw [sl_get hy]
    cases hs : sl K y with
    | none => rfl
    | some q => simp [maskO, h y q hs]
  · rw [List.getElem?_eq_none (by omega)]
    rfl
theorem sl_mask {K : List (Option Int)} {P : List Int} {y : Nat} {k : Int} (h : sl (maskN K P) y = some k) : k ∈ P := by
  have hl := lt_of_sl h
  have := sl_get hl
  rw [h] at this
  unfold maskN at this
  rw [List.getElem?_map, sl_get (by rwa [mask_len] at hl)] at this
  cases hs : sl K y with
  | none => rw [hs] at this; simp [maskO] at this
  | some q =>
    rw [hs] at this
    simp only [Option.map_some, maskO, Option.some.injEq] at this
    split at this
    · rename_i hq
      cases this
      exact hq
    · cases this
end Go.Proofs.YtbgnlenhncbceaaDoor
namespace Go.Proofs.YtbgnlenhncbceaaDoor.I
open Go.RowKit Go.Shelf
attribute [local go_sem] Oper.semAt_some

set_option maxRecDepth 100000 in
set_option maxHeartbeats 1000000 in
theorem copy_at (b s e0 p : Nat) (K : List (Option Int)) (O : List Int) (bf : Int → Nat) (uf : Int → Int) (w : World) (h : Good w b s e0 p K O bf (fun k => .int .i64 (uf k))) (hw : Tz w) :
    Calls Tryd.prog 49 #[.pointer (some ⟨b, 0, none⟩)] w fun e w' => ∃ b' s' e0' bf', e = .returned (.pointer (some ⟨b', 0, none⟩)) ∧ Good w' b' s' e0' p K O bf' (fun k => .int .i64 (uf k)) ∧ (∀ q, Own b' s' e0' O bf' q → w.heap.size ≤ q) ∧ Keeps (fun _ => False) w w' := by
  have hKl : K.length = 2 ^ p := h.inv.len
  have hpw := h.pow
  have hlb := lt_of_block h.tab.tab
  have hA : ∀ o, Good (w.alloc o) b s e0 p K O bf (fun k => .int .i64 (uf k)) := fun o => h.kept ((Keeps.refl (fun _ => False) w).alloc o) (fun _ _ f => f)
  have hmade := (hA (.cells #[.pointer (some ⟨b, 0, none⟩)] 54)).made
  have c0 := (hA (.cells #[.pointer (some ⟨b, 0, none⟩)] 54)).tab.c0
  have hk1 : Keeps (fun _ => False) w (w.alloc (.cells #[.pointer (some ⟨b, 0, none⟩)] 54)) := (Keeps.refl _ w).alloc _
  have hx1 := alloc_block w (.cells #[.pointer (some ⟨b, 0, none⟩)] 54)
  have x1 : (w.alloc (.cells #[.pointer (some ⟨b, 0, none⟩)] 54)).cell? ⟨w.heap.size, 0, none⟩ = some (.pointer (some ⟨b, 0, none⟩)) := cell_of_block hx1 0
  have hz1 : (w.alloc (.cells #[.pointer (some ⟨b, 0, none⟩)] 54)).heap.size = w.heap.size + 1 := by simp
  have hmx : Tryd.prog.follows .mixedOrders = true := by kernel_rfl
  have HP : Hid (K.length = 2 ^ p ∧ 2 ^ p ≤ 35184372088832) := ⟨hKl, hpw⟩
  refine (callsIn_wide (n := 3)).1 ?_
  refine callsIn_of_wp_marks Tryd.func49 rfl trivial ?_ rfl
  simp only [Tryd.ntmps49, List.size_toArray, List.length_cons, List.length_nil, Nat.reduceAdd, Nat.reduceSub, Array.replicate_succ, Array.replicate_zero, List.push_toArray, List.append_toArray, List.nil_append, List.cons_append]
  have hKb : K.length ≤ 35184372088832 := by omega
  clear hKl hpw hA
  gi_wp2_with fail
  generalize w.alloc (.cells #[.pointer (some ⟨b, 0, none⟩)] 54) = W1 at hmade c0 hk1 hx1 x1 hz1 ⊢
  refine ⟨trivial, (callsIn_wide.2 hmade).mono ?_⟩
  rintro e w' ⟨rfl, hw'⟩
  replace hw' := hw'.symm
  subst hw'
  gi_wp2_with fail
  refine ⟨trivial, (callsIn_wide.2 (empty_at K.length hKb (fun k => .int .i64 (uf k)) W1)).mono ?_⟩
  rintro e w2 ⟨rfl, hT2, hk2, hz2⟩
  rw [hz1] at hT2 hz2 ⊢
  have hkA : Keeps (fun _ => False) w w2 := hk1.trans hk2
  have hx2 := hk2.old hx1 (fun f => f)
  have x2 : (w2.alloc (.cells #[.pointer (some ⟨w.heap.size + 1 + 2, 0, none⟩)] 54)).cell? ⟨w.heap.size, 0, none⟩ = some (.pointer (some ⟨b, 0, none⟩)) := cell_of_block (alloc_old hx2 _) 0
  clear hmade c0 hk1 x1 hx1 hk2
  gi_wp2_with (refine ⟨trivial, ?_⟩; gi_at_call 62; refine (callsIn_wide.2 (coming_any _ _)).mono ?_; rintro e w1 ⟨rfl, rfl⟩)
  clear x2
  have hkB : Keeps (fun _ => False) w ((w2.alloc (.cells #[.pointer (some ⟨w.heap.size + 1 + 2, 0, none⟩)] 54)).alloc (.cells #[.pointer (some ⟨b, 0, none⟩)] 54)) := (hkA.alloc _).alloc _
  have hb3 : Below w2.heap.size w2 ((w2.alloc (.cells #[.pointer (some ⟨w.heap.size + 1 + 2, 0, none⟩)] 54)).alloc (.cells #[.pointer (some ⟨b, 0, none⟩)] 54)) := ((Below.refl _ w2).alloc (Nat.le_refl _) _).alloc (by simp) _
  have hT3 := hT2.below hb3
  have hxt : Boxed ((w2.alloc (.cells #[.pointer (some ⟨w.heap.size + 1 + 2, 0, none⟩)] 54)).alloc (.cells #[.pointer (some ⟨b, 0, none⟩)] 54)) w.heap.size 54 (.pointer (some ⟨b, 0, none⟩)) := alloc_old (alloc_old hx2 _) _
  have hxc : Boxed ((w2.alloc (.cells #[.pointer (some ⟨w.heap.size + 1 + 2, 0, none⟩)] 54)).alloc (.cells #[.pointer (some ⟨b, 0, none⟩)] 54)) w2.heap.size 54 (.pointer (some ⟨w.heap.size + 1 + 2, 0, none⟩)) := alloc_old (alloc_block w2 _) _
  have hxb : Boxed ((w2.alloc (.cells #[.pointer (some ⟨w.heap.size + 1 + 2, 0, none⟩)] 54)).alloc (.cells #[.pointer (some ⟨b, 0, none⟩)] 54)) (w2.alloc (.cells #[.pointer (some ⟨w.heap.size + 1 + 2, 0, none⟩)] 54)).heap.size 54 (.pointer (some ⟨b, 0, none⟩)) := alloc_block (w2.alloc (.cells #[.pointer (some ⟨w.heap.size + 1 + 2, 0, none⟩)] 54)) _
  have hz3 : (((w2.alloc (.cells #[.pointer (some ⟨w.heap.size + 1 + 2, 0, none⟩)] 54)).alloc (.cells #[.pointer (some ⟨b, 0, none⟩)] 54))).heap.size = w2.heap.size + 2 := by simp
  rw [World.size_alloc] at hxb
  rw [hz2] at hxc hxb hz3
  generalize ((w2.alloc (.cells #[.pointer (some ⟨w.heap.size + 1 + 2, 0, none⟩)] 54)).alloc (.cells #[.pointer (some ⟨b, 0, none⟩)] 54)) = W3 at hkB hT3 hxt hxc hxb hz3 ⊢
  have hG3 : Good W3 b s e0 p K O bf (fun k => .int .i64 (uf k)) := h.kept hkB (fun _ _ f => f)
  have hlK : 0 < K.length := by rw [HP.out.1]; exact Nat.two_pow_pos p
  have hR := hG3.tab.ring (bx := w.heap.size + 1 + 3 + 1) hlK hxb
  have hltO : ∀ q, q ∈ O → bf q < w.heap.size := fun q hq => h.tab.lt (.inr (.inr (.inr ⟨q, hq, rfl⟩)))
  have hlte : e0 < w.heap.size := h.tab.lt (.inr (.inr (.inl rfl)))
  have hnd := h.tab.nd
  have HZ : Hid (W3.heap.size = w.heap.size + 1 + 3 + 2) := hz3
  clear hT2 hkA hx2 hb3 hxb hG3 hz2 hz1
  refine' range_next rfl (by omega) (gf := 69) (lb := #[.pointer (some ⟨w.heap.size + 1 + 3 + 1, 0, none⟩)]) rfl trivial (enters_of Tryd.func69 (by kernel_rfl) rfl)
    (coming_next (3 - 1) (by omega) (w.heap.size + 1 + 3 + 1) b s e0 K.length O bf _ W3 hR) (Below.refl _ _)
    (fun h k => h.trans k) (fun W r r' hl => KeptOn.putObj W _ _ _ hl rfl) (fun _ => rfl)
    (fun pre X => ((∃ bf', TabAt kinds X (w.heap.size + 1 + 2) (w.heap.size + 1 + 1) (w.heap.size + 1) (maskN K (pre.map (·.1))) (pre.map (·.1)) bf' (fun k => .int .i64 (uf k)) ∧ ∀ q, q ∈ pre.map (·.1) → w.heap.size + 1 + 3 + 2 ≤ bf' q) ∧ Boxed X w.heap.size 54 (.pointer (some ⟨b, 0, none⟩)) ∧ Boxed X (w.heap.size + 1 + 3) 54 (.pointer (some ⟨w.heap.size + 1 + 2, 0, none⟩)) ∧ w.heap.size + 1 + 3 + 2 ≤ X.heap.size) ∧ Keeps (fun _ => False) w X)
    (fun _ _ _ => False)
    (OwnFrom.and (Go.Own.from (fun s A B row hs hg hr => ⟨hs.1.imp fun _ e => ⟨e.1.grown hg hr, e.2⟩, block_kept hs.2.1 hg hr, block_kept hs.2.2.1 hg hr, Nat.le_trans hs.2.2.2 hg.size⟩) _) (ownFrom_keeps (by omega)))
    (fun _ _ _ _ _ hs _ _ => hs)
    ⟨⟨⟨_, by rw [List.map_nil, mask_nil]; exact hT3, fun q hq => by simp at hq⟩, hxt, hxc, by omega⟩, hkB⟩ _ ?assign ?body ?done ?stop
  case assign =>
    intro l x W K hK
    gi_wp2
    exact hK
  case stop =>
    rintro c pre X _ h _
    exact h.elim
  case done =>
    rintro ys X rfl ⟨⟨⟨bf', hTX, hbX⟩, _, hcX, _⟩, hKX⟩ hK
    rw [firsts_all, mask_all (fun y k hy => (h.inv.mem k).2 ⟨y, hy⟩)] at hTX
    rw [firsts_all] at hbX
    have xc := hcX.cell
    obtain ⟨D, hD⟩ : ∃ D, W3.heap.size = D := ⟨_, rfl⟩
    rw [hD] at hK hz3 HZ ⊢
    have hTD := hTX.putObj hK rfl (.deferred none)
    have hKD := hKX.putObj (l := D) (by omega) (.deferred none)
    have HEnd : Hid (Good (X.putObj D (.deferred none)) (w.heap.size + 1 + 2) (w.heap.size + 1 + 1) (w.heap.size + 1) p K O bf' (fun k => .int .i64 (uf k)) ∧ (∀ q, Own (w.heap.size + 1 + 2) (w.heap.size + 1 + 1) (w.heap.size + 1) O bf' q → w.heap.size ≤ q) ∧ Keeps (fun _ => False) w (X.putObj D (.deferred none))) := by
      refine ⟨⟨hTD, h.inv, h.load, h.p3, h.p40, h.many⟩, ?_, hKD⟩
      rintro q (rfl | rfl | rfl | ⟨k, hk, rfl⟩)
      · omega
      · omega
      · omega
      · have := hbX k hk; omega
    clear hTX hbX hTD hKD hz3 HZ hD hR hT3
    gi_wp2
    refine ⟨by simp, .inl ⟨_, _, rfl, run_takeDeferred hK, ?_⟩⟩
    obtain ⟨q1, q2, q3⟩ := HEnd.out
    exact ⟨_, by simp [results, Tryd.f49, go_sem], _, _, _, _, rfl, q1, q2, q3⟩
  case body =>
    rintro l pre x X ⟨⟨⟨bf', hT, hbF⟩, hxt', hxc', hXs⟩, hK⟩ hlen hnx
    have hG := h.kept hK (fun _ _ f => f)
    have hvals : pre.map (·.1) ++ [x.1] = O.take (pre.length + 1) := by
      have := congrArg (List.map (·.1)) hnx
      rw [firsts_vals, List.map_append] at this
      exact this
    have hxP : x.1 ∉ pre.map (·.1) := by
      have h2 : (pre.map (·.1) ++ [x.1]).Nodup := by rw [hvals]; exact hnd.sublist (List.take_sublist _ _)
      intro hm
      exact (List.nodup_append.1 h2).2.2 _ hm _ (by simp) rfl
    have hpl : (pre.map (·.1)).length < 35184372088832 := by have := h.len; rw [List.length_map]; omega
    have hsl := hG.slotlt x.1
    have hin := hG.inv.slot_in x.2
    have hinj : ∀ y, sl K y = some x.1 → y = slotN (2 ^ p) K (homeP p x.1) x.1 := fun y hy => hG.inv.inj _ _ _ hy hin
    have hXz : Tz X := fun i hi => by
      have h1 := hw i hi
      have hlt := World.block_lt_of_cell? _ _ h1
      rw [← h1]
      simp only [World.cell?, hK.block 0 hlt (fun f => f)]
    have hfind : ∀ m, Calls Tryd.prog 63 #[.pointer (some ⟨b, 0, none⟩), .int .u64 x.1] (X.drewN m) fun e w' =>
        e = .returned (.tuple #[.int .i64 (slotN (2 ^ p) K (homeP p x.1) x.1), .int .i64 (lookN (2 ^ p) K (homeP p x.1) x.1 + 1 : Nat)]) ∧ w' = X.drewN m := fun m => (hG.like (like_drewN X m)).find ((like_drewN X m).tz hXz) x.1
    obtain ⟨ea, ec, hent⟩ := hG.tab.key x.2
    obtain ⟨B, hB0⟩ : ∃ B, bf x.1 = B := ⟨_, rfl⟩
    obtain ⟨u, hu0⟩ : ∃ u, uf x.1 = u := ⟨_, rfl⟩
    obtain ⟨j, hj0⟩ : ∃ j, slotN (2 ^ p) K (homeP p x.1) x.1 = j := ⟨_, rfl⟩
    have hBl : B < w.heap.size := by rw [← hB0]; exact hltO _ x.2
    rw [hB0] at hent
    rw [hj0] at hsl hin hinj hfind
    generalize lookN (2 ^ p) K (homeP p x.1) x.1 + 1 = L at hfind
    have hown : ∀ q, Own (w.heap.size + 1 + 2) (w.heap.size + 1 + 1) (w.heap.size + 1) (pre.map (·.1)) bf' q → w.heap.size < q ∧ q ≠ w.heap.size + 1 + 3 ∧ q ≠ w.heap.size + 1 + 3 + 1 := by
      rintro q (rfl | rfl | rfl | ⟨k, hk, rfl⟩)
      · omega
      · omega
      · omega
      · have := hbF k hk; omega
    have hcells : ∀ q, Own (w.heap.size + 1 + 2) (w.heap.size + 1 + 1) (w.heap.size + 1) (pre.map (·.1)) bf' q → ∃ c t fr, X.heap[q]? = some (Obj.cells c t fr) := by
      rintro q (rfl | rfl | rfl | ⟨k, hk, rfl⟩)
      · exact ⟨_, _, _, hT.tab⟩
      · exact ⟨_, _, _, hT.slots⟩
      · exact ⟨_, _, _, hT.sent⟩
      · obtain ⟨a1, a2, a3⟩ := hT.key hk
        exact ⟨_, _, _, a3⟩
    have hcome : ∀ X1, Like X1 X → ∀ y, x.1 = y → Calls Tryd.prog 64 #[.pointer (some ⟨w.heap.size + 1 + 2, 0, none⟩), .int .u64 y, .int .i64 u] X1 fun e w' => e = .returned (.pointer (some ⟨X.heap.size, 0, none⟩)) ∧ (w'.cell? ⟨w.heap.size + 1 + 3, 0, none⟩ = some (.pointer (some ⟨w.heap.size + 1 + 2, 0, none⟩)) ∧ w'.cell? ⟨w.heap.size + 1 + 2, 0, none⟩ = some (.slice (some ⟨w.heap.size + 1 + 1, 0, none⟩) K.length K.length) ∧ w'.cell? ⟨B, 0, none⟩ = some (.int .u64 y) ∧ w'.cell? ⟨B, 1, none⟩ = some (.int .i64 u)) ∧ ((w'.setCell ⟨w.heap.size + 1 + 1, j, none⟩ (.pointer (some ⟨X.heap.size, 0, none⟩))).cell? ⟨w.heap.size + 1 + 3, 0, none⟩ = some (.pointer (some ⟨w.heap.size + 1 + 2, 0, none⟩)) ∧ (w'.setCell ⟨w.heap.size + 1 + 1, j, none⟩ (.pointer (some ⟨X.heap.size, 0, none⟩))).cell? ⟨w.heap.size + 1 + 2, 0, none⟩ = some (.slice (some ⟨w.heap.size + 1 + 1, 0, none⟩) K.length K.length) ∧ (w'.setCell ⟨w.heap.size + 1 + 1, j, none⟩ (.pointer (some ⟨X.heap.size, 0, none⟩))).cell? ⟨B, 0, none⟩ = some (.int .u64 y) ∧ (w'.setCell ⟨w.heap.size + 1 + 1, j, none⟩ (.pointer (some ⟨X.heap.size, 0, none⟩))).cell? ⟨B, 1, none⟩ = some (.int .i64 u)) ∧ (∃ z, w'.cell? ⟨w.heap.size + 1 + 1, j, none⟩ = some z) ∧ w'.frozen? ⟨w.heap.size + 1 + 1, j, none⟩ = false ∧
        Hid (KeepsFrom W3.heap.size X (w'.setCell ⟨w.heap.size + 1 + 1, j, none⟩ (.pointer (some ⟨X.heap.size, 0, none⟩))) ∧ KeptOn (Walked (w.heap.size + 1 + 3 + 1) b e0 O bf) X (w'.setCell ⟨w.heap.size + 1 + 1, j, none⟩ (.pointer (some ⟨X.heap.size, 0, none⟩))) ∧ (((∃ bf', TabAt kinds (w'.setCell ⟨w.heap.size + 1 + 1, j, none⟩ (.pointer (some ⟨X.heap.size, 0, none⟩))) (w.heap.size + 1 + 2) (w.heap.size + 1 + 1) (w.heap.size + 1) (maskN K ((pre ++ [x]).map (·.1))) ((pre ++ [x]).map (·.1)) bf' (fun k => .int .i64 (uf k)) ∧ ∀ q, q ∈ (pre ++ [x]).map (·.1) → w.heap.size + 1 + 3 + 2 ≤ bf' q) ∧ Boxed (w'.setCell ⟨w.heap.size + 1 + 1, j, none⟩ (.pointer (some ⟨X.heap.size, 0, none⟩))) w.heap.size 54 (.pointer (some ⟨b, 0, none⟩)) ∧ Boxed (w'.setCell ⟨w.heap.size + 1 + 1, j, none⟩ (.pointer (some ⟨X.heap.size, 0, none⟩))) (w.heap.size + 1 + 3) 54 (.pointer (some ⟨w.heap.size + 1 + 2, 0, none⟩)) ∧ w.heap.size + 1 + 3 + 2 ≤ (w'.setCell ⟨w.heap.size + 1 + 1, j, none⟩ (.pointer (some ⟨X.heap.size, 0, none⟩))).heap.size) ∧ Keeps (fun _ => False) w (w'.setCell ⟨w.heap.size + 1 + 1, j, none⟩ (.pointer (some ⟨X.heap.size, 0, none⟩))))) := fun X1 hl y hy => by
      subst hy
      rw [← hu0]
      refine (come_at _ _ _ (maskN K (pre.map (·.1))) (pre.map (·.1)) bf' (fun k => .int .i64 (uf k)) x.1 (uf x.1) X1 (hl.tab hT) hpl).mono ?_
      rintro e w' ⟨rfl, hw'⟩
      have hT' := hw'.tab ((hl.tab hT).come hxP (fun y e => hxP (sl_mask e)) (.int .i64 (uf x.1)))
      have hk0 := hw'.keeps (comeW_keeps kinds X1 (w.heap.size + 1 + 2) (w.heap.size + 1 + 1) (w.heap.size + 1) (pre.map (·.1)) bf' (pre.map (·.1)).length x.1 (.int .i64 (uf x.1)) ((pre.map (·.1)).length + 1 : Nat))
      have hXX : X1.heap.size = X.heap.size := by rw [hl.heap]
      rw [hXX] at hT' ⊢
      have hk' : Keeps (Own (w.heap.size + 1 + 2) (w.heap.size + 1 + 1) (w.heap.size + 1) (pre.map (·.1)) bf') X w' := ⟨hk0.os.trans hl.os, hk0.tape.trans hl.tape, hk0.output.trans hl.output, by rw [← hl.heap]; exact hk0.size, fun i hi hs => by rw [← hl.heap] at hi ⊢; exact hk0.block i hi hs⟩
      have hk'' : Keeps (Own (w.heap.size + 1 + 2) (w.heap.size + 1 + 1) (w.heap.size + 1) (pre.map (·.1)) bf') X (w'.setCell ⟨w.heap.size + 1 + 1, j, none⟩ (.pointer (some ⟨X.heap.size, 0, none⟩))) := hk'.setCell (p := ⟨w.heap.size + 1 + 1, j, none⟩) (.inr (.inr (.inl rfl))) _
      have hupd : ∀ f : Int → Value, upd f x.1 (f x.1) = f := fun f => by
        funext q
        unfold upd
        split
        · rename_i e; rw [e]
        · rfl
      rw [hupd (fun k => .int .i64 (uf k))] at hT'
      have hT2 := hT'.store j (some x.1)
      rw [← mask_snoc hin hinj, show slotVal (upd bf' x.1 X.heap.size) (some x.1) = .pointer (some ⟨X.heap.size, 0, none⟩) from by simp only [slotVal, upd_same]] at hT2
      have d0 := hT'.c0
      have d1 := hT2.c0
      rw [mask_len] at d0 d1
      have he' := hk'.old hent (fun e => by have := hown _ e; omega)
      have he'' := hk''.old hent (fun e => by have := hown _ e; omega)
      have hc' := hk'.old hxc' (fun e => (hown _ e).2.1 rfl)
      have hc'' := hk''.old hxc' (fun e => (hown _ e).2.1 rfl)
      refine ⟨rfl, ⟨cell_of_block hc' 0, d0, cell_of_block he' 0, cell_of_block he' 1⟩, ⟨cell_of_block hc'' 0, d1, cell_of_block he'' 0, cell_of_block he'' 1⟩, ⟨_, hT'.cs j (by rw [mask_len]; exact hsl)⟩, hT'.fs j, ⟨hk''.size, fun i o _ hi ho => hk''.old hi (fun e => ?_)⟩, ⟨hk''.size, fun i c t fr hs hi => hk''.old hi (fun e => ?_)⟩, ⟨⟨_, by rw [List.map_append]; exact hT2, fun q hq => ?_⟩, hk''.old hxt' (fun e => by have := hown _ e; omega), hc'', Nat.le_trans hXs hk''.size⟩, hK.step hk'' (fun q hq e => by have := hown q e; omega)⟩
      · obtain ⟨c, t, fr, h1⟩ := hcells i e
        rw [h1] at hi
        cases hi
        cases ho
      · have h1 := hown i e
        rcases hs with rfl | rfl | rfl | ⟨q, hq, rfl⟩
        · exact h1.2.2 rfl
        · omega
        · omega
        · have := hltO q hq; omega
      · rw [List.map_append, List.mem_append] at hq
        rcases hq with hq | hq
        · have hne : q ≠ x.1 := fun e => hxP (e ▸ hq)
          rw [upd_other _ _ hne]
          exact hbF q hq
        · simp at hq
          rw [hq, upd_same]
          exact hXs
    have hck : X.cell? ⟨B, 0, none⟩ = some (.int .u64 x.1) := cell_of_block hent 0
    have hcv : X.cell? ⟨B, 1, none⟩ = some (.int .i64 (uf x.1)) := cell_of_block hent 1
    have xt := hxt'.cell
    have xc := hxc'.cell
    have d2 := hT.c0
    rw [mask_len] at d2
    rw [hu0] at hcv
    obtain ⟨y, hy0⟩ : ∃ y, x.1 = y := ⟨_, rfl⟩
    have hcome := fun X1 hl => hcome X1 hl y hy0
    rw [hy0] at hck hfind
    have hsl' : (j : Int) < (K.length : Int) := by omega
    clear hT hent hin hinj hxP hvals hnx hbF hcells hown hG hXz hu0 hj0 hy0
    rw [hB0]
    clear hB0
    generalize pre ++ [x] = px at *
    gi_wp2
    refine wpIn_round_quiet (by kernel_rfl) (by kernel_rfl) (by kernel_rfl) ?_
    repeat (go_big_quiet_step ((go_at_call 63; exact (hfind _).mono (fun _ _ ⟨h1, h2⟩ => ⟨h1, _, h2⟩))))
    refine wpQuiet_nil ?_
    rintro _ ⟨nq, rfl⟩
    have hS0 : (X.drewN nq).drew.cell? ⟨w.heap.size + 1 + 3, 0, none⟩ = some (.pointer (some ⟨w.heap.size + 1 + 2, 0, none⟩)) ∧ (X.drewN nq).drew.cell? ⟨w.heap.size + 1 + 2, 0, none⟩ = some (.slice (some ⟨w.heap.size + 1 + 1, 0, none⟩) K.length K.length) ∧ (X.drewN nq).drew.cell? ⟨B, 0, none⟩ = some (.int .u64 y) ∧ (X.drewN nq).drew.cell? ⟨B, 1, none⟩ = some (.int .i64 u) := ⟨xc, d2, hck, hcv⟩
    replace hcome := hcome (X.drewN nq).drew ⟨rfl, rfl, rfl, rfl⟩
    clear hfind xt
    gi_wp2
    refine wpIn_round_held (S := fun W => W.cell? ⟨w.heap.size + 1 + 3, 0, none⟩ = some (.pointer (some ⟨w.heap.size + 1 + 2, 0, none⟩)) ∧ W.cell? ⟨w.heap.size + 1 + 2, 0, none⟩ = some (.slice (some ⟨w.heap.size + 1 + 1, 0, none⟩) K.length K.length) ∧ W.cell? ⟨B, 0, none⟩ = some (.int .u64 y) ∧ W.cell? ⟨B, 1, none⟩ = some (.int .i64 u)) 17 rfl hmx (by kernel_rfl) ?_
    refine held_take (i := 0) (v := .pointer (some ⟨w.heap.size + 1 + 2, 0, none⟩)) 28 rfl rfl (by kernel_rfl) (by kernel_rfl) (by kernel_rfl) rfl (fun w' hw' => by obtain ⟨t1, t2, t3, t4⟩ := hw'; go_simp) hS0 ?_
    simp only [Act.put, List.setIfInBounds_toArray, List.set_cons_zero, List.set_cons_succ]
    refine held_take (i := 1) (v := .pointer (some ⟨w.heap.size + 1 + 2, 0, none⟩)) 29 rfl rfl (by kernel_rfl) (by kernel_rfl) (by kernel_rfl) rfl (fun w' hw' => by obtain ⟨t1, t2, t3, t4⟩ := hw'; go_simp) hS0 ?_
    simp only [Act.put, List.setIfInBounds_toArray, List.set_cons_zero, List.set_cons_succ]
    refine held_take (i := 2) (v := .pointer (some ⟨w.heap.size + 1 + 2, 0, none⟩)) 30 rfl rfl (by kernel_rfl) (by kernel_rfl) (by kernel_rfl) rfl (fun w' hw' => by obtain ⟨t1, t2, t3, t4⟩ := hw'; go_simp) hS0 ?_
    simp only [Act.put, List.setIfInBounds_toArray, List.set_cons_zero, List.set_cons_succ]
    refine held_take (i := 3) (v := .slice (some ⟨w.heap.size + 1 + 1, 0, none⟩) K.length K.length) 31 rfl rfl (by kernel_rfl) (by kernel_rfl) (by kernel_rfl) rfl (fun w' hw' => by obtain ⟨t1, t2, t3, t4⟩ := hw'; go_simp) hS0 ?_
    simp only [Act.put, List.setIfInBounds_toArray, List.set_cons_zero, List.set_cons_succ]
    refine held_take (i := 4) (v := .int .i64 j) 32 rfl rfl (by kernel_rfl) (by kernel_rfl) (by kernel_rfl) rfl (fun w' hw' => by obtain ⟨t1, t2, t3, t4⟩ := hw'; go_simp) hS0 ?_
    simp only [Act.put, List.setIfInBounds_toArray, List.set_cons_zero, List.set_cons_succ]
    refine held_take (i := 5) (v := .pointer (some ⟨w.heap.size + 1 + 2, 0, none⟩)) 33 rfl rfl (by kernel_rfl) (by kernel_rfl) (by kernel_rfl) rfl (fun w' hw' => by obtain ⟨t1, t2, t3, t4⟩ := hw'; go_simp) hS0 ?_
    simp only [Act.put, List.setIfInBounds_toArray, List.set_cons_zero, List.set_cons_succ]
    refine held_take (i := 6) (v := .pointer (some ⟨B, 0, none⟩)) 34 rfl rfl (by kernel_rfl) (by kernel_rfl) (by kernel_rfl) rfl (fun w' hw' => by obtain ⟨t1, t2, t3, t4⟩ := hw'; go_simp) hS0 ?_
    simp only [Act.put, List.setIfInBounds_toArray, List.set_cons_zero, List.set_cons_succ]
    refine held_take (i := 7) (v := .pointer (some ⟨B, 0, none⟩)) 35 rfl rfl (by kernel_rfl) (by kernel_rfl) (by kernel_rfl) rfl (fun w' hw' => by obtain ⟨t1, t2, t3, t4⟩ := hw'; go_simp) hS0 ?_
    simp only [Act.put, List.setIfInBounds_toArray, List.set_cons_zero, List.set_cons_succ]
    refine held_take (i := 8) (v := .pointer (some ⟨B, 0, none⟩)) 36 rfl rfl (by kernel_rfl) (by kernel_rfl) (by kernel_rfl) rfl (fun w' hw' => by obtain ⟨t1, t2, t3, t4⟩ := hw'; go_simp) hS0 ?_
    simp only [Act.put, List.setIfInBounds_toArray, List.set_cons_zero, List.set_cons_succ]
    refine held_take (i := 9) (v := .int .u64 y) 37 rfl rfl (by kernel_rfl) (by kernel_rfl) (by kernel_rfl) rfl (fun w' hw' => by obtain ⟨t1, t2, t3, t4⟩ := hw'; go_simp) hS0 ?_
    simp only [Act.put, List.setIfInBounds_toArray, List.set_cons_zero, List.set_cons_succ]
    refine held_take (i := 10) (v := .pointer (some ⟨B, 0, none⟩)) 38 rfl rfl (by kernel_rfl) (by kernel_rfl) (by kernel_rfl) rfl (fun w' hw' => by obtain ⟨t1, t2, t3, t4⟩ := hw'; go_simp) hS0 ?_
    simp only [Act.put, List.setIfInBounds_toArray, List.set_cons_zero, List.set_cons_succ]
    refine held_take (i := 11) (v := .pointer (some ⟨B, 0, none⟩)) 39 rfl rfl (by kernel_rfl) (by kernel_rfl) (by kernel_rfl) rfl (fun w' hw' => by obtain ⟨t1, t2, t3, t4⟩ := hw'; go_simp) hS0 ?_
    simp only [Act.put, List.setIfInBounds_toArray, List.set_cons_zero, List.set_cons_succ]
    refine held_take (i := 12) (v := .pointer (some ⟨B, 1, none⟩)) 40 rfl rfl (by kernel_rfl) (by kernel_rfl) (by kernel_rfl) rfl (fun w' hw' => by obtain ⟨t1, t2, t3, t4⟩ := hw'; go_simp) hS0 ?_
    simp only [Act.put, List.setIfInBounds_toArray, List.set_cons_zero, List.set_cons_succ]
    refine held_take (i := 13) (v := .int .i64 u) 41 rfl rfl (by kernel_rfl) (by kernel_rfl) (by kernel_rfl) rfl (fun w' hw' => by obtain ⟨t1, t2, t3, t4⟩ := hw'; go_simp) hS0 ?_
    simp only [Act.put, List.setIfInBounds_toArray, List.set_cons_zero, List.set_cons_succ]
    refine held_call (i := 14) 42 (by kernel_rfl) rfl rfl rfl (by go_simp) (hcome.mono ?_)
    rintro e w4 ⟨rfl, hS4, hS5, ⟨z, hz⟩, hfz, hEnd⟩
    refine ⟨_, rfl, hS4, ?_⟩
    simp only [Act.put, List.setIfInBounds_toArray, List.set_cons_zero, List.set_cons_succ]
    refine held_take (i := 15) (v := .pointer (some ⟨w.heap.size + 1 + 1, j, none⟩)) 43 rfl rfl (by kernel_rfl) (by kernel_rfl) (by kernel_rfl) rfl (fun w' hw' => by obtain ⟨t1, t2, t3, t4⟩ := hw'; go_simp) hS4 ?_
    simp only [Act.put, List.setIfInBounds_toArray, List.set_cons_zero, List.set_cons_succ]
    refine held_none (i := 16) (w' := (w4.setCell ⟨w.heap.size + 1 + 1, j, none⟩ (.pointer (some ⟨X.heap.size, 0, none⟩)))) (by kernel_rfl) rfl rfl rfl (by go_simp) hS5 ?_
    refine held_end (by kernel_rfl) ?_ _
    obtain ⟨q1, q2, q3⟩ := hEnd.out
    exact ⟨q1, q2, q3⟩
end Go.Proofs.YtbgnlenhncbceaaDoor.I
