/-
  The program's All at a table: what its closure hands on, round by round. No statement of the seat is proved here.
-/
import Derived.Test.YtbhocajmcfdffaaDoorHoldU
import Derived.Test.YtbhocajmcfdffaaDoorAllNoU
import Derived.Test.YtbhocajmcfdffaaDoorLoop2
namespace Go.Proofs.YtbhocajmcfdffaaDoor.U
open Go.RowKit Go.Shelf
attribute [local go_sem] Oper.semAt_some

/-- Entries that no table has (their neighbours are nil) are as they were, and so are blocks of deferred calls. -/
structure KeptNil (W W' : World) : Prop where
  size : W.heap.size ≤ W'.heap.size
  block : ∀ (k : Nat) (c : Array Value), W.heap[k]? = some (.cells c 85 (0, 0)) → c[2]? = some (.pointer none) → W'.heap[k]? = some (.cells c 85 (0, 0))
  held : ∀ (k : Nat) (x : Option (List Deferred)), W.heap[k]? = some (.deferred x) → W'.heap[k]? = some (.deferred x)
theorem KeptNil.refl (W : World) : KeptNil W W := ⟨Nat.le_refl _, fun _ _ h _ => h, fun _ _ h => h⟩
theorem KeptNil.trans {A B C : World} (h : KeptNil A B) (k : KeptNil B C) : KeptNil A C := ⟨Nat.le_trans h.size k.size, fun i c h1 h2 => k.block i c (h.block i c h1 h2) h2, fun i x h1 => k.held i x (h.held i x h1)⟩
theorem KeptNil.loop (W : World) (l : Nat) (r r' : Loop) (hl : W.heap[l]? = some (.loop r)) : KeptNil W (W.putObj l (.loop r')) :=
  ⟨by simp, fun k c hk _ => (World.putObj_heap_other (fun e => by subst e; rw [hk] at hl; cases hl)).trans hk, fun k x hk => (World.putObj_heap_other (fun e => by subst e; rw [hk] at hl; cases hl)).trans hk⟩
theorem KeptNil.like {W A B : World} (h : KeptNil W A) (l : Like B A) : KeptNil W B := ⟨by rw [l.heap]; exact h.size, fun k c h1 h2 => by rw [l.heap]; exact h.block k c h1 h2, fun k x h1 => by rw [l.heap]; exact h.held k x h1⟩
theorem KeptNil.keeps {S : Nat → Prop} {W W' : World} (h : Keeps S W W') (hS : ∀ k, S k → ∃ c t fr, W.heap[k]? = some (.cells c t fr) ∧ (t = 85 → c[2]? ≠ some (.pointer none))) : KeptNil W W' :=
  ⟨h.size, fun k c hk hc => h.old hk (fun hs => by
    obtain ⟨c', t, fr, e1, e2⟩ := hS k hs
    rw [hk] at e1
    cases e1
    exact e2 rfl hc), fun k x hk => h.old hk (fun hs => by
    obtain ⟨c', t, fr, e1, e2⟩ := hS k hs
    rw [hk] at e1
    cases e1)⟩

/-- Cells of the entries that the loop keeps. -/
def keptV (l : List (Int × Int)) : List Value := l.flatMap fun x => [.int .u64 x.1, .int .u64 x.2, .pointer none, .pointer none]
theorem keptV_get : ∀ (l : List (Int × Int)) (i : Nat) (x : Int × Int), l[i]? = some x → (keptV l)[i * 4]? = some (.int .u64 x.1) ∧ (keptV l)[i * 4 + 1]? = some (.int .u64 x.2) ∧ (keptV l)[i * 4 + 2]? = some (.pointer none) ∧ (keptV l)[i * 4 + 3]? = some (.pointer none)
  | [], i, x, h => by simp at h
  | y :: l, 0, x, h => by
    simp at h
    subst h
    simp [keptV]
  | y :: l, i + 1, x, h => by
    have ih := keptV_get l i x (by simpa using h)
    have e : keptV (y :: l) = [Value.int .u64 y.1, .int .u64 y.2, .pointer none, .pointer none] ++ keptV l := by simp [keptV]
    have hr : ∀ j, (keptV (y :: l))[(i + 1) * 4 + j]? = (keptV l)[i * 4 + j]? := fun j => by
      rw [e, List.getElem?_append_right (by simp; omega)]
      congr 1
      simp
      omega
    exact ⟨(hr 0).trans ih.1, (hr 1).trans ih.2.1, (hr 2).trans ih.2.2.1, (hr 3).trans ih.2.2.2⟩

set_option maxRecDepth 100000 in
set_option maxHeartbeats 1000000 in
theorem all1_in (n : Nat) (hn : 3 ≤ n) (l bx b s e0 p : Nat) (K : List (Option Int)) (O : List Int) (bf : Int → Nat) (uf : Int → Int) (J Jx : List (Int × Int) → World → Prop) (W : World)
    (hJ : OwnFrom W.heap.size J) (hJx : OwnFrom W.heap.size Jx) (hYY : ∀ pre x W1, J pre W1 → pre.length < O.length → YieldAt Fence.wide (n - 1) Tryd.prog l #[.int .u64 x.1, .int .u64 x.2] W1 fun e W' =>
      (e = .returned (.bool true) ∧ J (pre ++ [x]) W' ∧ KeptNil W1 W') ∨ (e = .returned (.bool false) ∧ Jx (pre ++ [x]) W' ∧ HeldOn W.heap.size W1 W'))
    (hb : W.cell? ⟨bx, 0, none⟩ = some (.pointer (some ⟨b, 0, none⟩))) (hG : Good W b s e0 p K O bf (fun k => .int .u64 (uf k))) (hO : O.length ≤ 4398046511104) (h0 : J [] W) :
    CallsIn Fence.wide n Tryd.prog 61 #[.func (.yield l) #[] #[], .pointer (some ⟨bx, 0, none⟩)] W fun e W' => (∃ v, e = .returned v) ∧
      ((∃ ys, ys = O.map (fun k => (k, uf k)) ∧ J ys W') ∨ (∃ pre, (∃ k, k < O.length ∧ pre = (O.map (fun k => (k, uf k))).take (k + 1)) ∧ Jx pre W')) := by
  have hn1 : 1 ≤ n := by omega
  have hl := len_at b O.length W hG.tab.c1
  have hmk := run_kept O.length hO
  have hlt := World.block_lt_of_cell? _ _ hb
  have hba : ∀ o1 o2, ((W.alloc o1).alloc o2).cell? ⟨bx, 0, none⟩ = some (.pointer (some ⟨b, 0, none⟩)) := fun o1 o2 => by
    rw [World.cell?_alloc_lt _ _ ⟨bx, 0, none⟩ (by simp; exact Nat.lt_succ_of_lt hlt), World.cell?_alloc_lt _ _ ⟨bx, 0, none⟩ hlt, hb]
  generalize hcs : madeCells #[Value.int .u64 0, Value.int .u64 0, .pointer none, .pointer none] (O.length * 4) = cs at *
  refine callsIn_of_wp_marks Tryd.func61 rfl trivial ?_ rfl
  simp only [Tryd.ntmps61, List.size_toArray, List.length_cons, List.length_nil, Nat.reduceAdd, Nat.reduceSub, Array.replicate_succ, Array.replicate_zero, List.push_toArray, List.append_toArray, List.nil_append, List.cons_append]
  gi_wp2_with (first
    | (refine ⟨trivial, ?_⟩; gi_at_call 59; refine (callsIn_wide.2 hl).mono ?_; rintro e w1 ⟨rfl, hw1⟩; replace hw1 := hw1.symm; subst hw1)
    | (refine ⟨trivial, ?_⟩; gi_at_call 44; refine (callsIn_wide.2 (coming_any _ _)).mono ?_; rintro e w1 ⟨rfl, rfl⟩))
  have hcl : cs.size = O.length * 4 := by rw [← hcs]; simp [size_madeCells]
  have hrow0 := World.ownsRow_made (base := W.heap.size) (e := 85) (size := 4) W cs O.length (Nat.le_refl _) (by unfold maxLen; omega) hcl
  have hx1 : Boxed _ _ _ _ := alloc_old (alloc_block (W.alloc (.cells cs 85)) (.cells #[.slice (some ⟨W.heap.size, 0, none⟩) 0 O.length] 93)) (.cells #[.pointer (some ⟨b, 0, none⟩)] 23)
  have hx2 : Boxed _ _ _ _ := alloc_block ((W.alloc (.cells cs 85)).alloc (.cells #[.slice (some ⟨W.heap.size, 0, none⟩) 0 O.length] 93)) (.cells #[.pointer (some ⟨b, 0, none⟩)] 23)
  simp only [World.size_alloc] at hx1 hx2
  have hrow2 := (hrow0.alloc (.cells #[.slice (some ⟨W.heap.size, 0, none⟩) 0 O.length] 93)).alloc (.cells #[.pointer (some ⟨b, 0, none⟩)] 23)
  have hB2 : Below W.heap.size W (((W.alloc (.cells cs 85)).alloc (.cells #[.slice (some ⟨W.heap.size, 0, none⟩) 0 O.length] 93)).alloc (.cells #[.pointer (some ⟨b, 0, none⟩)] 23)) :=
    (((Below.refl _ W).alloc (Nat.le_refl _) _).alloc (by simp) _).alloc (by simp; omega) _
  have hz2 : (((W.alloc (.cells cs 85)).alloc (.cells #[.slice (some ⟨W.heap.size, 0, none⟩) 0 O.length] 93)).alloc (.cells #[.pointer (some ⟨b, 0, none⟩)] 23)).heap.size = W.heap.size + 3 := by simp
  generalize ((W.alloc (.cells cs 85)).alloc (.cells #[.slice (some ⟨W.heap.size, 0, none⟩) 0 O.length] 93)).alloc (.cells #[.pointer (some ⟨b, 0, none⟩)] 23) = W2 at hx1 hx2 hrow2 hB2 hz2 ⊢
  have hlK : 0 < K.length := by rw [hG.inv.len]; exact Nat.two_pow_pos p
  have hR := (hG.tab.below hB2).ring (bx := W.heap.size + 1 + 1) hlK hx2
  have hltO : ∀ q, q ∈ O → bf q < W.heap.size := fun q hq => hG.tab.lt (.inr (.inr (.inr ⟨q, hq, rfl⟩)))
  have hlte : e0 < W.heap.size := hG.tab.lt (.inr (.inr (.inl rfl)))
  have hltb : b < W.heap.size := hG.tab.lt (.inl rfl)
  have hent := fun (x : { q // q ∈ O }) => hG.tab.key x.2
  obtain ⟨i0, hi, hz0, hz1, hzb⟩ := info_parts info_entry
  clear hl hmk hba hrow0 hcl hcs
  refine' wpIn_rangeFunc_ownG rfl (by omega) (gf := 82) (lb := #[.pointer (some ⟨W.heap.size + 1 + 1, 0, none⟩)]) rfl trivial (enters_of Tryd.func82 (by kernel_rfl) rfl)
    (coming_stops (n - 1) (by omega) (W.heap.size + 1 + 1) b s e0 K.length O bf _ W2 hR)
    (fun h k => h.trans k) (fun W l o o' hl ho hc _ => KeptOn.putObj W l o o' ho hc) (Below.refl _ _) (fun _ => rfl)
    (fun pre X => ((∃ v, Boxed X (W.heap.size + 1) 93 v ∧ X.ownsRow W.heap.size 85 4 v pre.length (keptV (pre.map fun k => (k.1, uf k.1))) ∧ True) ∧ Boxed X (W.heap.size + 1 + 1) 23 (.pointer (some ⟨b, 0, none⟩))) ∧ Below W.heap.size W X)
    (fun _ _ _ => False)
    (OwnFrom.and (OwnFrom.and (Go.Own.from (holdsRow_own W.heap.size (W.heap.size + 1) 93 85 4 (fun pre : List { q // q ∈ O } => pre.length) (fun pre => keptV (pre.map fun k => (k.1, uf k.1))) (fun _ _ => True)) _) (Go.Own.from (fun s A B row hs hg hr => block_kept hs hg hr) _)) (ownFrom_below (Nat.le_refl _) (by omega)))
    (fun _ _ _ _ _ hs _ _ => hs)
    ⟨⟨⟨_, hx1, hrow2, trivial⟩, hx2⟩, hB2⟩ _ ?assign ?body ?done ?stop
  case assign =>
    intro l x W K hK
    gi_wp2
    exact hK
  case stop =>
    rintro D c pre X _ _ h _
    exact h.elim
  case body =>
    rintro l pre x W1 ⟨⟨⟨v, hv, hrow, _⟩, hbx⟩, hB⟩ hlen
    obtain ⟨ea, ec, he⟩ := hent x
    have he1 := (hB.block _ (hltO _ x.2)).trans he
    have hck : W1.cell? ⟨bf x.1, 0, none⟩ = some (.int .u64 x.1) := cell_of_block he1 0
    have hcv : W1.cell? ⟨bf x.1, 1, none⟩ = some (.int .u64 (uf x.1)) := cell_of_block he1 1
    have hc := hv.cell
    have hnew : ∀ (j : Nat) (u : Value), [Value.int .u64 x.1, .int .u64 (uf x.1), .pointer none, .pointer none][j]? = some u → ((W1.alloc (.cells #[.int .u64 x.1, .int .u64 (uf x.1), .pointer none, .pointer none] 85)).drew).cell? ((⟨W1.heap.size, 0, none⟩ : Addr).add j) = some u := fun j u hj => by
      rw [addr_add, Nat.zero_add]
      show (W1.alloc (.cells #[.int .u64 x.1, .int .u64 (uf x.1), .pointer none, .pointer none] 85)).cell? _ = _
      rw [cell_of_block (alloc_block W1 _)]
      simpa using hj
    obtain ⟨v', w1, hrun, hown', hgrow, _⟩ := run_append_own (P := Tryd.prog) ((W1.alloc (.cells #[.int .u64 x.1, .int .u64 (uf x.1), .pointer none, .pointer none] 85)).drew) W.heap.size 93 93 85 i0 (.agg #[.int .u64 0, Value.int .u64 0, .pointer none, .pointer none]) 4 32 Tryd.underlying93 hi hz0 hz1 hzb rfl (by decide) v pre.length _ (hrow.alloc _).drew ⟨W1.heap.size, 0, none⟩ 1 1 [.int .u64 x.1, .int .u64 (uf x.1), .pointer none, .pointer none] rfl hnew (by simp [Value.oneCell']) (by unfold maxLen; omega) (by omega) (by have := hB.size; show W.heap.size ≤ (W1.alloc (.cells #[.int .u64 x.1, .int .u64 (uf x.1), .pointer none, .pointer none] 85)).heap.size; simp; omega)
    have hmx : Tryd.prog.follows .mixedOrders = true := by kernel_rfl
    obtain ⟨B, hB0⟩ : ∃ B, bf x.1 = B := ⟨_, rfl⟩
    obtain ⟨u, hu0⟩ : ∃ u, uf x.1 = u := ⟨_, rfl⟩
    obtain ⟨y, hy0⟩ : ∃ y, x.1 = y := ⟨_, rfl⟩
    have hBl : B < W.heap.size := by rw [← hB0]; exact hltO _ x.2
    have Hy : Hid (x.1 = y ∧ uf x.1 = u) := ⟨hy0, hu0⟩
    rw [hB0] at hck hcv ⊢
    rw [hu0] at hcv hrun hgrow hown'
    rw [hy0] at hck hrun hgrow hown'
    clear hB0 hy0 hu0 hnew he he1 hent
    obtain ⟨hv1, hv2, hr2, hk2, hb2⟩ := hv.appended (w1 := w1) (tmp := .cells #[.int .u64 y, .int .u64 u, .pointer none, .pointer none] 85) (by decide) hrow hB.size (by omega) hown' ⟨hgrow.os, hgrow.tape, hgrow.output, hgrow.size, hgrow.block⟩
    have hc1 := hv1.cell
    have hf1 := hv1.frozen
    have hbx' : Boxed (w1.setCell ⟨W.heap.size + 1, 0, none⟩ v') (W.heap.size + 1 + 1) 23 (.pointer (some ⟨b, 0, none⟩)) :=
      ((Below.heap_setCell _ _ _ _ (by show W.heap.size + 1 + 1 ≠ W.heap.size + 1; omega)).trans ((hgrow.block _ (by show _ < (W1.alloc (.cells #[.int .u64 y, .int .u64 u, .pointer none, .pointer none] 85)).heap.size; have := hbx.lt; simp; omega) (hbx.not_row (by decide) hrow)).trans (Below.heap_alloc W1 _ _ hbx.lt))).trans hbx
    have hkeep : KeptOn (Walked (W.heap.size + 1 + 1) b e0 O bf) W1 (w1.setCell ⟨W.heap.size + 1, 0, none⟩ v') := ⟨hb2.size, fun k c t fr hk hc => by
      rcases hk with rfl | rfl | rfl | ⟨q, hq, rfl⟩
      · rw [show W1.heap[W.heap.size + 1 + 1]? = _ from hbx] at hc
        exact (show _ = _ from hbx').trans hc
      · exact (hb2.block _ (by omega)).trans hc
      · exact (hb2.block _ (by omega)).trans hc
      · exact (hb2.block _ (hltO q hq)).trans hc⟩
    have hr3 : (w1.setCell ⟨W.heap.size + 1, 0, none⟩ v').ownsRow W.heap.size 85 4 v' (pre ++ [x]).length (keptV ((pre ++ [x]).map fun k => (k.1, uf k.1))) := by
      have e1 : keptV ((pre ++ [x]).map fun k => (k.1, uf k.1)) = keptV (pre.map fun k => (k.1, uf k.1)) ++ [.int .u64 y, .int .u64 u, .pointer none, .pointer none] := by
        rw [List.map_append]
        unfold keptV
        rw [List.flatMap_append]
        show _ ++ [Value.int .u64 x.1, .int .u64 (uf x.1), .pointer none, .pointer none] = _
        rw [Hy.out.2, Hy.out.1]
      rw [List.length_append, e1]
      exact hr2
    replace hr2 := hr3
    clear hr3
    generalize pre ++ [x] = px at *
    obtain ⟨g', cap', rfl⟩ := ownsRow_succ hown'
    have hca : ((W1.alloc (.cells #[.int .u64 y, .int .u64 u, .pointer none, .pointer none] 85)).drew).cell? ⟨W.heap.size + 1, 0, none⟩ = some v := (World.cell?_alloc_lt W1 _ ⟨W.heap.size + 1, 0, none⟩ hv.lt).trans hc
    have hcell2 : ∀ (X : World), Below W.heap.size W1 X → X.cell? ⟨B, 0, none⟩ = some (.int .u64 y) ∧ X.cell? ⟨B, 1, none⟩ = some (.int .u64 u) := fun X hX => by
      have hb := hX.block B hBl
      simp only [World.cell?, hb]
      exact ⟨hck, hcv⟩
    have hSS : W1.drew.cell? ⟨B, 0, none⟩ = some (.int .u64 y) ∧ W1.drew.cell? ⟨B, 1, none⟩ = some (.int .u64 u) := ⟨hck, hcv⟩
    have hS0 : ((W1.alloc (.cells #[.int .u64 y, .int .u64 u, .pointer none, .pointer none] 85)).drew).cell? ⟨B, 0, none⟩ = some (.int .u64 y) ∧ ((W1.alloc (.cells #[.int .u64 y, .int .u64 u, .pointer none, .pointer none] 85)).drew).cell? ⟨B, 1, none⟩ = some (.int .u64 u) :=
      hcell2 _ ⟨rfl, rfl, rfl, by show W1.heap.size ≤ (W1.alloc _).heap.size; simp, fun k hk => Below.heap_alloc W1 _ _ (by have := hB.size; omega)⟩
    have hS2 := hcell2 _ hb2
    have hS1 : w1.cell? ⟨B, 0, none⟩ = some (.int .u64 y) ∧ w1.cell? ⟨B, 1, none⟩ = some (.int .u64 u) := by
      have hBb : w1.heap[B]? = W1.heap[B]? := ((Below.heap_setCell w1 ⟨W.heap.size + 1, 0, none⟩ _ B (by show B ≠ W.heap.size + 1; omega)).symm).trans (hb2.block B hBl)
      simp only [World.cell?, hBb]
      exact ⟨hck, hcv⟩
    clear hcell2
    gi_wp2
    refine wpIn_round_held (S := fun w' => w'.cell? ⟨B, 0, none⟩ = some (.int .u64 y) ∧ w'.cell? ⟨B, 1, none⟩ = some (.int .u64 u)) 13 rfl hmx (by kernel_rfl) ?_
    refine held_take (i := 1) (v := .pointer (some ⟨B, 0, none⟩)) 14 rfl rfl (by kernel_rfl) (by kernel_rfl) (by kernel_rfl) rfl (fun w' hw' => by obtain ⟨t1, t2⟩ := hw'; go_simp) hSS ?_
    simp only [Act.put, List.setIfInBounds_toArray, List.set_cons_zero, List.set_cons_succ]
    refine held_take (i := 2) (v := .pointer (some ⟨B, 0, none⟩)) 15 rfl rfl (by kernel_rfl) (by kernel_rfl) (by kernel_rfl) rfl (fun w' hw' => by obtain ⟨t1, t2⟩ := hw'; go_simp) hSS ?_
    simp only [Act.put, List.setIfInBounds_toArray, List.set_cons_zero, List.set_cons_succ]
    refine held_take (i := 3) (v := .pointer (some ⟨B, 0, none⟩)) 16 rfl rfl (by kernel_rfl) (by kernel_rfl) (by kernel_rfl) rfl (fun w' hw' => by obtain ⟨t1, t2⟩ := hw'; go_simp) hSS ?_
    simp only [Act.put, List.setIfInBounds_toArray, List.set_cons_zero, List.set_cons_succ]
    refine held_take (i := 4) (v := .int .u64 y) 17 rfl rfl (by kernel_rfl) (by kernel_rfl) (by kernel_rfl) rfl (fun w' hw' => by obtain ⟨t1, t2⟩ := hw'; go_simp) hSS ?_
    simp only [Act.put, List.setIfInBounds_toArray, List.set_cons_zero, List.set_cons_succ]
    refine held_take (i := 5) (v := .pointer (some ⟨B, 0, none⟩)) 18 rfl rfl (by kernel_rfl) (by kernel_rfl) (by kernel_rfl) rfl (fun w' hw' => by obtain ⟨t1, t2⟩ := hw'; go_simp) hSS ?_
    simp only [Act.put, List.setIfInBounds_toArray, List.set_cons_zero, List.set_cons_succ]
    refine held_take (i := 6) (v := .pointer (some ⟨B, 0, none⟩)) 19 rfl rfl (by kernel_rfl) (by kernel_rfl) (by kernel_rfl) rfl (fun w' hw' => by obtain ⟨t1, t2⟩ := hw'; go_simp) hSS ?_
    simp only [Act.put, List.setIfInBounds_toArray, List.set_cons_zero, List.set_cons_succ]
    refine held_take (i := 7) (v := .pointer (some ⟨B, 1, none⟩)) 20 rfl rfl (by kernel_rfl) (by kernel_rfl) (by kernel_rfl) rfl (fun w' hw' => by obtain ⟨t1, t2⟩ := hw'; go_simp) hSS ?_
    simp only [Act.put, List.setIfInBounds_toArray, List.set_cons_zero, List.set_cons_succ]
    refine held_take (i := 8) (v := .int .u64 u) 21 rfl rfl (by kernel_rfl) (by kernel_rfl) (by kernel_rfl) rfl (fun w' hw' => by obtain ⟨t1, t2⟩ := hw'; go_simp) hSS ?_
    simp only [Act.put, List.setIfInBounds_toArray, List.set_cons_zero, List.set_cons_succ]
    refine held_take (i := 9) (v := .agg #[.int .u64 y, .int .u64 u, .pointer none, .pointer none]) 22 rfl rfl (by kernel_rfl) (by kernel_rfl) (by kernel_rfl) rfl (fun w' hw' => by obtain ⟨t1, t2⟩ := hw'; go_simp) hSS ?_
    simp only [Act.put, List.setIfInBounds_toArray, List.set_cons_zero, List.set_cons_succ]
    refine held_val2 (i := 0) (j := 10) (vi := v) (vj := .slice (some ⟨W1.heap.size, 0, none⟩) 1 1) (wi := W1.drew) (wj := (W1.alloc (.cells #[.int .u64 y, .int .u64 u, .pointer none, .pointer none] 85)).drew) (some 13) (some 23) (by kernel_rfl) rfl rfl rfl rfl rfl rfl (by go_simp) (by go_simp) hSS hS0 ?_ ?_
    · simp only [Act.put, List.setIfInBounds_toArray, List.set_cons_zero, List.set_cons_succ]
      refine held_val (i := 10) (v := .slice (some ⟨W1.heap.size, 0, none⟩) 1 1) (w' := (W1.alloc (.cells #[.int .u64 y, .int .u64 u, .pointer none, .pointer none] 85)).drew) (some 23) (by kernel_rfl) rfl rfl rfl (by go_simp) hS0 ?_
      simp only [Act.put, List.setIfInBounds_toArray, List.set_cons_zero, List.set_cons_succ]
      refine held_val (i := 11) (v := .slice (some ⟨g', 0, none⟩) (pre.length + 1) cap') (w' := w1) (some 24) (by kernel_rfl) rfl rfl rfl (run_append_op rfl rfl rfl hrun) hS1 ?_
      simp only [Act.put, List.setIfInBounds_toArray, List.set_cons_zero, List.set_cons_succ]
      refine held_none (i := 12) (w' := w1.setCell ⟨W.heap.size + 1, 0, none⟩ (.slice (some ⟨g', 0, none⟩) (pre.length + 1) cap')) (by kernel_rfl) rfl rfl rfl (by go_simp) hS2 ?_
      exact held_end (by kernel_rfl) ⟨hk2.from _, hkeep, ⟨⟨_, hv2, hr2, trivial⟩, hbx'⟩, hB.trans hb2⟩ _
    · simp only [Act.put, List.setIfInBounds_toArray, List.set_cons_zero, List.set_cons_succ]
      refine held_val (i := 0) (v := v) (w' := (W1.alloc (.cells #[.int .u64 y, .int .u64 u, .pointer none, .pointer none] 85)).drew) (some 13) (by kernel_rfl) rfl rfl rfl (by go_simp) hS0 ?_
      simp only [Act.put, List.setIfInBounds_toArray, List.set_cons_zero, List.set_cons_succ]
      refine held_val (i := 11) (v := .slice (some ⟨g', 0, none⟩) (pre.length + 1) cap') (w' := w1) (some 24) (by kernel_rfl) rfl rfl rfl (run_append_op rfl rfl rfl hrun) hS1 ?_
      simp only [Act.put, List.setIfInBounds_toArray, List.set_cons_zero, List.set_cons_succ]
      refine held_none (i := 12) (w' := w1.setCell ⟨W.heap.size + 1, 0, none⟩ (.slice (some ⟨g', 0, none⟩) (pre.length + 1) cap')) (by kernel_rfl) rfl rfl rfl (by go_simp) hS2 ?_
      exact held_end (by kernel_rfl) ⟨hk2.from _, hkeep, ⟨⟨_, hv2, hr2, trivial⟩, hbx'⟩, hB.trans hb2⟩ _
  case done =>
    rintro D ys X hD rfl ⟨⟨⟨v, hv, hrow, _⟩, _⟩, hB⟩ hK
    rw [firsts_length (Nat.le_refl _)] at hrow
    have hmap : (firsts O O.length).map (fun k => (k.1, uf k.1)) = O.map (fun k => (k, uf k)) := by
      have := congrArg (List.map (fun k => (k, uf k))) (firsts_all O)
      rw [List.map_map] at this
      exact this
    rw [hmap] at hrow
    have hJX : J [] X := hJ _ _ _ none h0 (Below.grownNone hB) (fun r e => by cases e)
    have hc := hv.cell
    have hlen : (O.map (fun k => (k, uf k))).length = O.length := by simp
    have hys : ∀ k, k < O.length → (O.map (fun k => (k, uf k)))[k]? = some (oat O k, uf (oat O k)) := fun k hk => by simp [oat, hk]
    generalize hyy : O.map (fun k => (k, uf k)) = ys at *
    have HYS : Hid (O.map (fun k => (k, uf k)) = ys) := hyy
    clear hyy
    rcases hrow.2 with ⟨rfl, hO0⟩ | ⟨g, cap, cur, rfl, hg1, hg2, hg3, hg4, hg5, hg6⟩
    · have HO : Hid (O.length = 0) := hO0
      have HY : Hid (ys = []) := List.eq_nil_of_length_eq_zero (by omega)
      clear hrow hO0
      gi_wp2
      gi_loopw [27] (fun i wr => i = .int .i64 0 ∧ wr = X) (fun _ _ => 0)
      case atStart => exact ⟨rfl, rfl⟩
      case round =>
        obtain ⟨rfl, rfl⟩ := hrel
        gi_wp2
        refine ⟨by simp, .inl ⟨_, _, rfl, run_takeDeferred hK, ?_⟩⟩
        exact ⟨_, results_none rfl _ _ _, ⟨_, rfl⟩, .inl ⟨ys, HYS.out.symm, hJ.putObj _ (by rw [HY.out]; exact hJX) (by omega) hK rfl⟩⟩
    · have hcur2 : 0 < O.length → cur[2]? = some (.pointer none) := fun hpos => by
        have h2 := (keptV_get ys 0 _ (hys 0 hpos)).2.2.1
        rw [← hg6, List.getElem?_take_of_lt (by omega)] at h2
        simpa using h2
      have hcells : ∀ k, k < O.length → cur[k * 4]? = some (.int .u64 (oat O k)) ∧ cur[k * 4 + 1]? = some (.int .u64 (uf (oat O k))) ∧ cur[k * 4 + 2]? = some (.pointer none) ∧ cur[k * 4 + 3]? = some (.pointer none) := fun k hk => by
        obtain ⟨k0, k1, k2, k3⟩ := keptV_get ys k _ (hys k hk)
        rw [← hg6, List.getElem?_take_of_lt (by omega)] at k0 k1 k2 k3
        exact ⟨by simpa using k0, by simpa using k1, by simpa using k2, by simpa using k3⟩
      clear hrow hg6 hv
      gi_wp2
      gi_loopw [27] (fun i wr => ∃ k : Nat, k ≤ O.length ∧ i = .int .i64 k ∧ J (ys.take k) wr ∧ (0 < O.length → wr.heap[g]? = some (.cells cur 85 (0, 0))) ∧ wr.heap[D]? = some (.deferred (some []))) (fun i _ => O.length - (intOf i).toNat)
      case atStart => exact ⟨0, by omega, rfl, hJX, fun _ => hg2, hK⟩
      case round =>
        clear hJX hg2 hK hc
        obtain ⟨k, hk, rfl, hJk, hgk, hK⟩ := hrel
        by_cases hlt : k < O.length
        · obtain ⟨k0, k1, k2, k3⟩ := hcells k hlt
          have hgb := hgk (by omega)
          have c0 : wr.cell? ⟨g, k * 4, none⟩ = some _ := (cell_of_block hgb (k * 4)).trans k0
          have c1 : wr.cell? ⟨g, k * 4 + 1, none⟩ = some _ := (cell_of_block hgb (k * 4 + 1)).trans k1
          have c2 : wr.cell? ⟨g, k * 4 + 2, none⟩ = some _ := (cell_of_block hgb (k * 4 + 2)).trans k2
          have c3 : wr.cell? ⟨g, k * 4 + 3, none⟩ = some _ := (cell_of_block hgb (k * 4 + 3)).trans k3
          have htk : ys.take (k + 1) = ys.take k ++ [(oat O k, uf (oat O k))] := by
            rw [List.take_add_one, hys k hlt]
            rfl
          obtain ⟨fn, tmps, assign, body, hy, hRR⟩ := hYY _ (oat O k, uf (oat O k)) (wr.alloc (.cells #[.int .u64 (oat O k), .int .u64 (uf (oat O k)), .pointer none, .pointer none] 85)) (hJ.alloc _ hJk) (by rw [List.length_take]; omega)
          dsimp only at hy hRR
          have HTK : Hid (ys.take (k + 1) = ys.take k ++ [(oat O k, uf (oat O k))]) := htk
          have HCU : Hid (cur[2]? = some (.pointer none)) := hcur2 (by omega)
          clear htk hYY hcells hys k0 k1 k2 k3 hcur2
          have hgA := alloc_old hgb (.cells #[.int .u64 (oat O k), .int .u64 (uf (oat O k)), .pointer none, .pointer none] 85)
          have hKA := alloc_old hK (.cells #[.int .u64 (oat O k), .int .u64 (uf (oat O k)), .pointer none, .pointer none] 85)
          clear hgk hK hgb hJk
          gi_wp2
          refine hRR.mono ?_
          rintro e W3 (⟨rfl, hJ3, hk3⟩ | ⟨rfl, hJx3, hk3⟩)
          · gi_wp2
            go_roundw
            case rel => exact ⟨k + 1, by omega, by go_num, by rw [HTK.out]; exact hJ3, fun _ => hk3.block _ _ hgA HCU.out, hk3.held _ _ hKA⟩
            case measure => simp [intOf]; omega
          · have hK3 := hk3 D _ (by omega) hKA
            gi_wp2
            refine ⟨by simp, .inl ⟨_, _, rfl, run_takeDeferred hK3, ?_⟩⟩
            exact ⟨_, results_none rfl _ _ _, ⟨_, rfl⟩, .inr ⟨_, ⟨k, hlt, by rw [HYS.out, HTK.out]⟩, hJx.putObj _ hJx3 (by omega) hK3 rfl⟩⟩
        · obtain rfl : k = O.length := by omega
          rw [← hlen, List.take_length] at hJk
          clear hcells hys hYY
          gi_wp2
          refine ⟨by simp, .inl ⟨_, _, rfl, run_takeDeferred hK, ?_⟩⟩
          exact ⟨_, results_none rfl _ _ _, ⟨_, rfl⟩, .inl ⟨ys, HYS.out.symm, hJ.putObj _ hJk (by omega) hK rfl⟩⟩

/-- The closure of All as an iterator, at a table. -/
theorem all_seq (n : Nat) (hn : 3 ≤ n) (bx b s e0 p : Nat) (K : List (Option Int)) (O : List Int) (bf : Int → Nat) (uf : Int → Int) (w : World) (hb : w.cell? ⟨bx, 0, none⟩ = some (.pointer (some ⟨b, 0, none⟩))) (hG : Good w b s e0 p K O bf (fun k => .int .u64 (uf k))) (hO : O.length ≤ 4398046511104) :
    SeqOwn Fence.wide n Tryd.prog 61 #[.pointer (some ⟨bx, 0, none⟩)] (fun x : Int × Int => #[.int .u64 x.1, .int .u64 x.2]) KeptNil (fun ys => ys = O.map (fun k => (k, uf k))) (fun pre => ∃ k, k < O.length ∧ pre = (O.map (fun k => (k, uf k))).take (k + 1)) O.length w :=
  fun l J Jx W hW hJ hJx hY h0 => all1_in n hn l bx b s e0 p K O bf uf J Jx W hJ hJx hY ((hW.cell (p := ⟨bx, 0, none⟩) (World.block_lt_of_cell? _ _ hb)).trans hb) (hG.kept (Keeps.of_below hW (fun _ => False)) (fun _ _ f => f)) hO h0
end Go.Proofs.YtbhocajmcfdffaaDoor.U
