/-
  No statement of the seat is proved here. (Several texts in one: RpA, RpB, RpC.)
-/
import Derived.Test.YtalopkllldnipaaRkZb
import Derived.OwnWalk

/- The document's small functions: numbers, entries, words, nodes (layer 24). No statement of the seat is proved here. -/
namespace Go.Proofs.Ytalopkllldnipaa
open Go.RowKit

set_option maxRecDepth 100000 in
set_option maxHeartbeats 1000000 in
theorem dnan_any (b : Nat) (hb : b < 18446744073709551616) (W : World) : Calls Try.prog 86 #[.float .f64 b] W fun e w' => e = .returned (.bool (nan b)) ∧ w' = W := by
  go_enter Try.func86, Try.ntmps86
  by_cases h : nan b = true
  · have hn := ord_self_nan h
    go_wp2_with fail
    go_ret
    rw [h]
    exact ⟨rfl, rfl⟩
  · have h' : nan b = false := by simpa using h
    have hn := ord_self_num hb h'
    go_wp2_with fail
    go_ret
    rw [h']
    exact ⟨rfl, rfl⟩
set_option maxRecDepth 100000 in
set_option maxHeartbeats 1000000 in
theorem dofReal_any (b : Nat) (hb : b < 18446744073709551616) (W : World) : Calls Try.prog 67 #[.float .f64 b] W fun e w' => e = .returned (.int .u64 (ofR b)) ∧ w' = W := by
  have HN := hid (dnan_any b hb)
  go_enter Try.func67, Try.ntmps67
  by_cases h : nan b = true
  · rw [h] at HN
    go_wp2_with (go_at_call 86; refine (HN.out _).mono ?_; rintro e w' ⟨rfl, rfl⟩)
    go_ret
    refine ret_of (congrArg (Value.int .u64) ?_)
    unfold ofR; rw [if_pos h]
  · have h' : nan b = false := by simpa using h
    rw [h'] at HN
    by_cases hs : (b : Int) < 9223372036854775808
    · have hw : IntKind.u64.wrap ((b : Int) + 9223372036854775808) = (b : Int) + 9223372036854775808 := by rw [IntKind.wrap_u64]; omega
      go_wp2_with (go_at_call 86; refine (HN.out _).mono ?_; rintro e w' ⟨rfl, rfl⟩)
      go_ret
      refine ret_of (congrArg (Value.int .u64) ?_)
      unfold ofR; rw [if_neg h, if_pos (by omega)]
    · have hw : IntKind.u64.wrap (18446744073709551615 - (b : Int)) = 18446744073709551615 - (b : Int) := by rw [IntKind.wrap_u64]; omega
      have hd : ((b : Int) < 9223372036854775808) = False := eq_false hs
      have HS := hid hs
      clear hs hb
      go_wp2_with (go_at_call 86; refine (HN.out _).mono ?_; rintro e w' ⟨rfl, rfl⟩)
      go_ret
      refine ret_of (congrArg (Value.int .u64) ?_)
      unfold ofR; rw [if_neg h, if_neg (by have := HS.out; omega)]
set_option maxRecDepth 100000 in
set_option maxHeartbeats 1000000 in
theorem dreal_any (w : Int) (hw0 : isW w) (W : World) : Calls Try.prog 41 #[.int .u64 w] W fun e w' => e = .returned (.tuple #[.float .f64 (reB w), .bool (reK w)]) ∧ w' = W := by
  obtain ⟨h0, h1⟩ := hw0
  go_enter Try.func41, Try.ntmps41
  by_cases c1 : w = 18446744073709551615
  · subst c1
    go_wp2_with (go_at_call 68; refine (math_nan _).mono ?_; rintro e w' ⟨rfl, rfl⟩)
    go_ret2
    exact ret2_of rfl rfl
  · by_cases c2 : w < 4503599627370495
    · go_wp2_with fail
      go_ret2
      refine ret2_of (congrArg (Value.float .f64) ?_) (congrArg Value.bool ?_)
      · unfold reB; rw [if_neg c1, if_pos (Or.inl c2)]
      · unfold reK; simp; omega
    · by_cases c3 : w > 18442240474082181120
      · go_wp2_with fail
        go_ret2
        refine ret2_of (congrArg (Value.float .f64) ?_) (congrArg Value.bool ?_)
        · unfold reB; rw [if_neg c1, if_pos (Or.inr c3)]
        · unfold reK; simp; omega
      · by_cases c4 : w ≥ 9223372036854775808
        · have hw : IntKind.u64.wrap (w - 9223372036854775808) = w - 9223372036854775808 := by rw [IntKind.wrap_u64]; omega
          go_wp2_with fail
          go_ret2
          refine ret2_of (congrArg (Value.float .f64) ?_) (congrArg Value.bool ?_)
          · unfold reB; rw [if_neg c1, if_neg (by omega), if_neg (by omega)]
          · unfold reK; simp; omega
        · have hw : IntKind.u64.wrap (18446744073709551615 - w) = 18446744073709551615 - w := by rw [IntKind.wrap_u64]; omega
          go_wp2_with fail
          go_ret2
          refine ret2_of (congrArg (Value.float .f64) ?_) (congrArg Value.bool ?_)
          · unfold reB; rw [if_neg c1, if_neg (by omega), if_pos (by omega)]
          · unfold reK; simp; omega
set_option maxHeartbeats 1000000 in
theorem dword_any (xs : List Int) (v : Value) (x : Int) (hx : isW x) (hl : xs.length ≤ 1000000) (w : World) (hr : Lies w v xs) : Calls Try.prog 39 #[v, .int .u64 x] w fun e w' => e = .returned (.tuple #[.int .u64 (oat xs x.toNat), .bool (decide (x < (xs.length : Int)))]) ∧ w' = w := by
  obtain ⟨a, c, rfl, hc⟩ := hr
  have hxn := hx.1
  have hwl : IntKind.u64.wrap (xs.length : Int) = (xs.length : Int) := by rw [IntKind.wrap_u64]; omega
  by_cases h : x ≥ (xs.length : Int)
  · clear hc
    go_enter Try.func39, Try.ntmps39
    go_wp2_with fail
    go_ret2
    refine ⟨?_, rfl⟩
    have e1 : oat xs x.toNat = 0 := by unfold oat; rw [List.getElem?_eq_none (by omega)]; rfl
    have e2 : decide (x < (xs.length : Int)) = false := by simp; omega
    rw [e1, e2]
    rfl
  · have hlt : x < (xs.length : Int) := by omega
    obtain ⟨g, off, rfl, d⟩ := hc x.toNat (by omega)
    have hxe : (x.toNat : Int) = x := Int.toNat_of_nonneg hxn
    clear hc
    go_enter Try.func39, Try.ntmps39
    go_wp2_with fail
    go_ret2
    have e2 : decide (x < (xs.length : Int)) = true := by simpa using hlt
    exact ⟨by simp only; rfl, rfl⟩
set_option maxRecDepth 100000 in
set_option maxHeartbeats 4000000 in
theorem before_any (a b : Int × Int) (w : World) : Calls Try.prog 43 #[.agg #[.int .u64 a.1, .int .u64 a.2], .agg #[.int .u64 b.1, .int .u64 b.2]] w fun e w' => e = .returned (.bool (decide (befE a b))) ∧ Keeps (fun _ => False) w w' := by
  obtain ⟨x0, x1⟩ := a
  obtain ⟨y0, y1⟩ := b
  have HK : Hid (Keeps (fun _ => False) w ((w.alloc (.cells #[.int .u64 x0, .int .u64 x1] 82)).alloc (.cells #[.int .u64 y0, .int .u64 y1] 82))) := hid ((keeps_new w _).alloc _)
  unfold befE
  dsimp only
  by_cases h1 : x0 < y0
  · go_enter Try.func43, Try.ntmps43
    go_wp2_with fail
    go_ret
    exact ⟨by simp [h1], HK.out⟩
  · by_cases h2 : x0 = y0
    · subst h2
      go_enter Try.func43, Try.ntmps43
      go_wp2_with fail
      go_ret
      exact ⟨by simp, HK.out⟩
    · go_enter Try.func43, Try.ntmps43
      go_wp2_with fail
      go_ret
      exact ⟨by simp [h1], HK.out⟩
end Go.Proofs.Ytalopkllldnipaa


/- The document's nodes, out of words (layer 24). No statement of the seat is proved here. -/
namespace Go.Proofs.Ytalopkllldnipaa
open Go.RowKit

/-- The cells of a node. -/
def adN (x : Int) (i : Nat) : Int := uw (uw (x - 1) + i)
def okN (W : List Int) (x : Int) : Bool := (List.range 5).all (fun i => decide (adN x i < (W.length : Int)))
def ndL (W : List Int) (x : Int) : List Int := (List.range 5).map (fun i => oat W (adN x i).toNat)
theorem okN_yes {W : List Int} {x : Int} (h : ∀ i, i < 5 → adN x i < (W.length : Int)) : okN W x = true := by
  unfold okN
  rw [List.all_eq_true]
  intro i hi
  simpa using h i (by simpa using hi)
theorem okN_no {W : List Int} {x : Int} {i : Nat} (hi : i < 5) (h : ¬ adN x i < (W.length : Int)) : okN W x = false := by
  cases e : okN W x with
  | false => rfl
  | true =>
    unfold okN at e
    rw [List.all_eq_true] at e
    have q := e i (by simpa using hi)
    exact absurd (by simpa using q) h
def arrV (l : List Int) : Array Value := (l.map (Value.int .u64)).toArray
theorem size_arr : (Try.prog.info? 87).map (·.size) = some 5 := by kernel_rfl
theorem arr_ret {fn : Func} {p u : Tmp} (h : fn.results = #[.cell p 87, .tmp u]) (tmps : Array Value) (w : World) (q : Nat) (cs : Array Value) (hs : cs.size = 5) (hb : Blk w q 87 cs)
    (hp : tmps.getD p undef = .pointer (some ⟨q, 0, none⟩)) : (results fn tmps).run Try.prog w = .ok (.tuple #[.agg cs, tmps.getD u undef]) w := by
  rw [results_ct h, hp]
  simp [asAddr, run_loadVar_row w q 87 87 _ (0, 0) _ hb Try.underlying87 rfl (by rw [size_arr, hs]), Result.andThen]
theorem arrV_set (l : List Int) (i : Nat) (x : Int) : (arrV l).setIfInBounds i (.int .u64 x) = arrV (l.set i x) := by
  unfold arrV
  simp [List.map_set]
theorem arrV_cell {w : World} {q : Nat} {ty : TypeId} {l : List Int} (h : Blk w q ty (arrV l)) {i : Nat} (hi : i < l.length) : w.cell? ⟨q, i, none⟩ = some (.int .u64 (oat l i)) := h.cell (by unfold arrV oat; simp [hi])
theorem five {l : List Int} (h : l.length = 5) : ∃ a b c d e, l = [a, b, c, d, e] := by
  match l, h with
  | [a, b, c, d, e], _ => exact ⟨a, b, c, d, e, rfl⟩
theorem Blk.set5 {w : World} {q : Nat} {ty : TypeId} (h : Blk w q ty (arrV [0, 0, 0, 0, 0])) (a b c d e : Int) : Blk (((((w.setCell ⟨q, 0, none⟩ (.int .u64 a)).setCell ⟨q, 1, none⟩ (.int .u64 b)).setCell ⟨q, 2, none⟩ (.int .u64 c)).setCell ⟨q, 3, none⟩ (.int .u64 d)).setCell ⟨q, 4, none⟩ (.int .u64 e)) q ty (arrV [a, b, c, d, e]) :=
  ((((h.set 0 _).set 1 _).set 2 _).set 3 _).set 4 _
theorem keeps_set5 (w : World) (q : Nat) (a b c d e : Value) : Keeps (fun k => k = q) w (((((w.setCell ⟨q, 0, none⟩ a).setCell ⟨q, 1, none⟩ b).setCell ⟨q, 2, none⟩ c).setCell ⟨q, 3, none⟩ d).setCell ⟨q, 4, none⟩ e) :=
  ((((keeps_set w q 0 a).trans (keeps_set _ q 1 b)).trans (keeps_set _ q 2 c)).trans (keeps_set _ q 3 d)).trans (keeps_set _ q 4 e)
set_option maxRecDepth 100000 in
set_option maxHeartbeats 4000000 in
theorem dnode_any (xs : List Int) (v : Value) (x : Int) (hl : xs.length ≤ 1000000) (w : World) (hr : Lies w v xs) : Calls Try.prog 40 #[v, .int .u64 x] w fun e w' => (∃ l : List Int, l.length = 5 ∧ (okN xs x = true → l = ndL xs x) ∧ e = .returned (.tuple #[.agg (arrV l), .bool (okN xs x)])) ∧ Keeps (fun _ => False) w w' := by
  have HW : Hid (∀ (k : Nat) (W : World), Keeps (fun _ => False) w W → Calls Try.prog 39 #[v, .int .u64 (IntKind.u64.wrap (IntKind.u64.wrap (x - 1) + k))] W fun e w' => e = .returned (.tuple #[.int .u64 (oat xs (adN x k).toNat), .bool (decide (adN x k < (xs.length : Int)))]) ∧ w' = W) :=
    hid fun k W kk => dword_any xs v (adN x k) (uw_isW _) hl W (hr.keeps kk (fun _ _ _ _ f => f))
  have hb0 := blk_new w 87 #[.int .u64 0, .int .u64 0, .int .u64 0, .int .u64 0, .int .u64 0]
  have hb1 := blk_new (w.alloc (.cells #[.int .u64 0, .int .u64 0, .int .u64 0, .int .u64 0, .int .u64 0] 87)) 87 #[.int .u64 0, .int .u64 0, .int .u64 0, .int .u64 0, .int .u64 0]
  have HB : Hid (Blk ((w.alloc (.cells #[.int .u64 0, .int .u64 0, .int .u64 0, .int .u64 0, .int .u64 0] 87)).alloc (.cells #[.int .u64 0, .int .u64 0, .int .u64 0, .int .u64 0, .int .u64 0] 87)) w.heap.size 87 (arrV [0, 0, 0, 0, 0]) ∧ Blk ((w.alloc (.cells #[.int .u64 0, .int .u64 0, .int .u64 0, .int .u64 0, .int .u64 0] 87)).alloc (.cells #[.int .u64 0, .int .u64 0, .int .u64 0, .int .u64 0, .int .u64 0] 87)) (w.heap.size + 1) 87 (arrV [0, 0, 0, 0, 0]) ∧ Keeps (fun _ => False) w ((w.alloc (.cells #[.int .u64 0, .int .u64 0, .int .u64 0, .int .u64 0, .int .u64 0] 87)).alloc (.cells #[.int .u64 0, .int .u64 0, .int .u64 0, .int .u64 0, .int .u64 0] 87))) := by
    refine hid ⟨hb0.kept (keeps_new _ _) (fun f => f), ?_, (keeps_new w _).alloc _⟩
    rw [show (w.alloc (.cells #[.int .u64 0, .int .u64 0, .int .u64 0, .int .u64 0, .int .u64 0] 87)).heap.size = w.heap.size + 1 by simp] at hb1
    exact hb1
  clear hb0 hb1 hr
  go_enter Try.func40, Try.ntmps40
  go_wp2_with fail
  go_loopw [7] (fun i wr => ∃ k : Nat, k ≤ 5 ∧ i = .int .i64 k ∧ ∃ l, Hid (l.length = 5 ∧ (∀ j, j < k → adN x j < (xs.length : Int) ∧ oat l j = oat xs (adN x j).toNat) ∧ Blk wr w.heap.size 87 (arrV [0, 0, 0, 0, 0]) ∧ Blk wr (w.heap.size + 1) 87 (arrV l) ∧ Keeps (fun _ => False) w wr)) (fun i _ => 5 - (intOf i).toNat)
  case atStart => exact ⟨0, by omega, rfl, [0, 0, 0, 0, 0], hid ⟨rfl, fun j hj => absurd hj (by omega), HB.out⟩⟩
  case round =>
    obtain ⟨k, hk, rfl, l, hr⟩ := hrel
    clear HB
    by_cases hk5 : k < 5
    · have hk5' : (k : Int) < 5 := by omega
      have hwk : IntKind.u64.wrap (k : Int) = (k : Int) := by rw [IntKind.wrap_u64]; omega
      have hwk1 : IntKind.i64.wrap ((k : Int) + 1) = ((k + 1 : Nat) : Int) := by rw [IntKind.wrap_i64]; omega
      have HC := hid (HW.out k wr hr.out.2.2.2.2)
      go_wp2_with fail
      refine HC.out.mono ?_
      rintro e_ w_ ⟨rfl, hw_⟩
      subst w_
      by_cases hlt : adN x k < (xs.length : Int)
      · have hc := arrV_cell hr.out.2.2.2.1 (i := k) (by rw [hr.out.1]; exact hk5)
        have hf := hr.out.2.2.2.1.frozen k
        have HN : Hid ((l.set k (oat xs (adN x k).toNat)).length = 5 ∧ (∀ j, j < k + 1 → adN x j < (xs.length : Int) ∧ oat (l.set k (oat xs (adN x k).toNat)) j = oat xs (adN x j).toNat) ∧ Blk (wr.setCell ⟨w.heap.size + 1, k, none⟩ (.int .u64 (oat xs (adN x k).toNat))) w.heap.size 87 (arrV [0, 0, 0, 0, 0]) ∧ Blk (wr.setCell ⟨w.heap.size + 1, k, none⟩ (.int .u64 (oat xs (adN x k).toNat))) (w.heap.size + 1) 87 (arrV (l.set k (oat xs (adN x k).toNat))) ∧ Keeps (fun _ => False) w (wr.setCell ⟨w.heap.size + 1, k, none⟩ (.int .u64 (oat xs (adN x k).toNat)))) := by
          have h := hr.out
          refine hid ⟨by simp [h.1], fun j hj => ?_, h.2.2.1.kept (keeps_set _ (w.heap.size + 1) k _) (by omega), ?_, h.2.2.2.2.step (keeps_set _ (w.heap.size + 1) k _) (fun i hi e => by omega)⟩
          · by_cases e : j = k
            · subst e
              refine ⟨hlt, ?_⟩
              unfold oat
              rw [List.getElem?_set_self (by rw [h.1]; exact hk5)]
              rfl
            · have q := h.2.1 j (by omega)
              refine ⟨q.1, ?_⟩
              rw [← q.2]
              unfold oat
              rw [List.getElem?_set_ne (by omega)]
          · rw [← arrV_set]
            exact h.2.2.2.1.set k _
        clear hr HW HC
        go_wp2_with fail
        go_roundw
        case rel => exact ⟨k + 1, by omega, by simp, _, HN⟩
        case measure => simp [intOf]; omega
      · have hno := okN_no hk5 hlt
        have hd : decide (adN x k < (xs.length : Int)) = false := decide_eq_false hlt
        clear hlt
        have HB : Hid (Blk wr (w.heap.size + 1) 87 (arrV l) ∧ Blk wr w.heap.size 87 (arrV [0, 0, 0, 0, 0]) ∧ l.length = 5 ∧ Keeps (fun _ => False) w wr) := hid ⟨hr.out.2.2.2.1, hr.out.2.2.1, hr.out.1, hr.out.2.2.2.2⟩
        obtain ⟨a0, a1, a2, a3, a4, rfl⟩ := five HB.out.2.2.1
        have c0 := arrV_cell HB.out.1 (i := 0) (by simp)
        have c1 := arrV_cell HB.out.1 (i := 1) (by simp)
        have c2 := arrV_cell HB.out.1 (i := 2) (by simp)
        have c3 := arrV_cell HB.out.1 (i := 3) (by simp)
        have c4 := arrV_cell HB.out.1 (i := 4) (by simp)
        have d0 := arrV_cell HB.out.2.1 (i := 0) (by simp)
        have d1 := arrV_cell HB.out.2.1 (i := 1) (by simp)
        have d2 := arrV_cell HB.out.2.1 (i := 2) (by simp)
        have d3 := arrV_cell HB.out.2.1 (i := 3) (by simp)
        have d4 := arrV_cell HB.out.2.1 (i := 4) (by simp)
        have e0 := HB.out.2.1.frozen 0
        have e1 := HB.out.2.1.frozen 1
        have e2 := HB.out.2.1.frozen 2
        have e3 := HB.out.2.1.frozen 3
        have e4 := HB.out.2.1.frozen 4
        simp only [oat, List.getElem?_cons_zero, List.getElem?_cons_succ, Option.getD_some] at c0 c1 c2 c3 c4 d0 d1 d2 d3 d4
        clear hr HW HC
        go_wp2_with fail
        refine bodyPost_ret (arr_ret rfl _ _ w.heap.size _ rfl (HB.out.2.1.set5 a0 a1 a2 a3 a4) rfl) rfl ?_
        refine ⟨⟨[a0, a1, a2, a3, a4], rfl, ?_, ?_⟩, HB.out.2.2.2.step (keeps_set5 wr w.heap.size (.int .u64 a0) (.int .u64 a1) (.int .u64 a2) (.int .u64 a3) (.int .u64 a4)) (fun i hi e => by omega)⟩
        · intro q; rw [hno] at q; cases q
        · rw [hno]; rfl
    · obtain rfl : k = 5 := by omega
      have hyes : okN xs x = true := okN_yes (fun i hi => (hr.out.2.1 i hi).1)
      have hnd : l = ndL xs x := by
        have h := hr.out
        apply List.ext_getElem?
        intro i
        unfold ndL
        by_cases hi : i < 5
        · have q := (h.2.1 i hi).2
          unfold oat at q ⊢
          rw [List.getElem?_eq_getElem (by rw [h.1]; exact hi)] at q ⊢
          simp only [List.getElem?_map, List.getElem?_range hi, Option.map_some]
          exact congrArg some q
        · rw [List.getElem?_eq_none (by rw [h.1]; omega), List.getElem?_eq_none (by simp; omega)]
      have HB : Hid (Blk wr (w.heap.size + 1) 87 (arrV l) ∧ Blk wr w.heap.size 87 (arrV [0, 0, 0, 0, 0]) ∧ l.length = 5 ∧ Keeps (fun _ => False) w wr) := hid ⟨hr.out.2.2.2.1, hr.out.2.2.1, hr.out.1, hr.out.2.2.2.2⟩
      obtain ⟨a0, a1, a2, a3, a4, rfl⟩ := five HB.out.2.2.1
      have c0 := arrV_cell HB.out.1 (i := 0) (by simp)
      have c1 := arrV_cell HB.out.1 (i := 1) (by simp)
      have c2 := arrV_cell HB.out.1 (i := 2) (by simp)
      have c3 := arrV_cell HB.out.1 (i := 3) (by simp)
      have c4 := arrV_cell HB.out.1 (i := 4) (by simp)
      have d0 := arrV_cell HB.out.2.1 (i := 0) (by simp)
      have d1 := arrV_cell HB.out.2.1 (i := 1) (by simp)
      have d2 := arrV_cell HB.out.2.1 (i := 2) (by simp)
      have d3 := arrV_cell HB.out.2.1 (i := 3) (by simp)
      have d4 := arrV_cell HB.out.2.1 (i := 4) (by simp)
      have e0 := HB.out.2.1.frozen 0
      have e1 := HB.out.2.1.frozen 1
      have e2 := HB.out.2.1.frozen 2
      have e3 := HB.out.2.1.frozen 3
      have e4 := HB.out.2.1.frozen 4
      simp only [oat, List.getElem?_cons_zero, List.getElem?_cons_succ, Option.getD_some] at c0 c1 c2 c3 c4 d0 d1 d2 d3 d4
      clear hr HW
      go_wp2_with fail
      refine bodyPost_ret (arr_ret rfl _ _ w.heap.size _ rfl (HB.out.2.1.set5 a0 a1 a2 a3 a4) rfl) rfl ?_
      refine ⟨⟨[a0, a1, a2, a3, a4], rfl, ?_, ?_⟩, HB.out.2.2.2.step (keeps_set5 wr w.heap.size (.int .u64 a0) (.int .u64 a1) (.int .u64 a2) (.int .u64 a3) (.int .u64 a4)) (fun i hi e => by omega)⟩
      · exact fun _ => hnd
      · rw [hyes]; rfl
end Go.Proofs.Ytalopkllldnipaa


/- The ranks of a node's children, as the document reads them (layer 24). No statement of the seat is proved here. -/
namespace Go.Proofs.Ytalopkllldnipaa
open Go.RowKit

/-- The rank of the node to which a word leads; whether its cells are there. -/
def rkN (W : List Int) (x : Int) : Int := if x = 0 then 0 else oat (ndL W x) 4
def inN (W : List Int) (x : Int) : Bool := if x = 0 then true else okN W x
theorem in_zero (W : List Int) : inN W 0 = true ∧ rkN W 0 = 0 := ⟨rfl, rfl⟩
theorem in_not {W : List Int} {x : Int} (h : ¬ x = 0) : inN W x = okN W x ∧ rkN W x = oat (ndL W x) 4 := by unfold inN rkN; rw [if_neg h, if_neg h]; exact ⟨rfl, rfl⟩
set_option maxRecDepth 100000 in
set_option maxHeartbeats 8000000 in
theorem dranks_any (xs : List Int) (v : Value) (a b x y c : Int) (hl : xs.length ≤ 1000000) (w : World) (hr : Lies w v xs) : Calls Try.prog 42 #[v, .agg #[.int .u64 a, .int .u64 b, .int .u64 x, .int .u64 y, .int .u64 c]] w fun e w' => (∃ l r, ((inN xs x && inN xs y) = true → l = rkN xs x ∧ r = rkN xs y) ∧ e = .returned (.tuple #[.int .u64 l, .int .u64 r, .bool (inN xs x && inN xs y)])) ∧ Keeps (fun _ => False) w w' := by
  have HN : Hid (∀ (q : Int) (W : World), Keeps (fun _ => False) w W → Calls Try.prog 40 #[v, .int .u64 q] W fun e w' => (∃ l : List Int, l.length = 5 ∧ (okN xs q = true → l = ndL xs q) ∧ e = .returned (.tuple #[.agg (arrV l), .bool (okN xs q)])) ∧ Keeps (fun _ => False) W w') :=
    hid fun q W kk => dnode_any xs v q hl W (hr.keeps kk (fun _ _ _ _ f => f))
  have hb0 := blk_new w 87 #[.int .u64 a, .int .u64 b, .int .u64 x, .int .u64 y, .int .u64 c]
  have HB := hid (And.intro hb0 (keeps_new w (.cells #[.int .u64 a, .int .u64 b, .int .u64 x, .int .u64 y, .int .u64 c] 87)))
  clear hr hb0 hl
  by_cases hx : x = 0
  · subst hx
    by_cases hy : y = 0
    · subst hy
      clear HN
      go_enter Try.func42, Try.ntmps42
      go_wp2_with fail
      go_ret3
      exact ⟨⟨0, 0, fun _ => ⟨rfl, rfl⟩, rfl⟩, HB.out.2⟩
    · have HY := in_not (W := xs) hy
      rw [HY.1, HY.2, (in_zero xs).1, (in_zero xs).2, Bool.true_and]
      have hy1 : (y == 0) = false := by simpa using hy
      go_enter Try.func42, Try.ntmps42
      go_wp2_with fail
      refine (HN.out y _ HB.out.2).mono ?_
      rintro e_ w1 ⟨⟨l1, hl1, hn1, rfl⟩, k1⟩
      obtain ⟨p0, p1, p2, p3, p4, rfl⟩ := five hl1
      have HB1 := hid ((HB.out.2.trans k1).alloc (.cells #[.int .u64 p0, .int .u64 p1, .int .u64 p2, .int .u64 p3, .int .u64 p4] 87))
      have HL1 := hid hn1
      clear hl1 hn1 k1 HN HB HY
      unfold arrV
      simp only [List.map_cons, List.map_nil]
      cases hok : okN xs y with
      | false =>
        go_wp2_with fail
        go_ret3
        refine ⟨⟨0, 0, ?_, ?_⟩, HB1.out⟩
        · intro f; rw [hok] at f; cases f
        · rw [hok]; rfl
      | true =>
        go_wp2_with fail
        go_ret3
        refine ⟨⟨0, p4, ?_, ?_⟩, HB1.out⟩
        · intro _; exact ⟨rfl, by rw [← HL1.out hok]; rfl⟩
        · rw [hok]; rfl
  · have HX := in_not (W := xs) hx
    rw [HX.1, HX.2]
    have hx1 : (x == 0) = false := by simpa using hx
    go_enter Try.func42, Try.ntmps42
    go_wp2_with fail
    refine (HN.out x _ HB.out.2).mono ?_
    rintro e_ w1 ⟨⟨l1, hl1, hn1, rfl⟩, k1⟩
    obtain ⟨p0, p1, p2, p3, p4, rfl⟩ := five hl1
    have kn := keeps_new w1 (.cells #[.int .u64 p0, .int .u64 p1, .int .u64 p2, .int .u64 p3, .int .u64 p4] 87)
    have HB1 := hid (And.intro ((HB.out.1.kept k1 (fun f => f)).kept kn (fun f => f)) ((HB.out.2.trans k1).trans kn))
    have HL1 := hid hn1
    clear hl1 hn1 k1 kn HB HX
    unfold arrV
    simp only [List.map_cons, List.map_nil]
    cases hok : okN xs x with
    | false =>
      clear HN
      go_wp2_with fail
      go_ret3
      refine ⟨⟨0, 0, ?_, ?_⟩, HB1.out.2⟩
      · intro f; rw [hok, Bool.false_and] at f; cases f
      · rw [hok, Bool.false_and]; rfl
    | true =>
      have y3 : (w1.alloc (.cells #[.int .u64 p0, .int .u64 p1, .int .u64 p2, .int .u64 p3, .int .u64 p4] 87)).cell? ⟨w.heap.size, 3, none⟩ = some (.int .u64 y) := HB1.out.1.cell rfl
      by_cases hy : y = 0
      · subst hy
        clear HN
        go_wp2_with fail
        go_ret3
        refine ⟨⟨p4, 0, ?_, ?_⟩, HB1.out.2⟩
        · intro _; exact ⟨by rw [← HL1.out hok]; rfl, rfl⟩
        · rw [hok]; rfl
      · have HY := hid (in_not (W := xs) hy)
        have hy1 : (y == 0) = false := by simpa using hy
        go_wp2_with fail
        refine (HN.out y _ HB1.out.2).mono ?_
        rintro e_ w2 ⟨⟨l2, hl2, hn2, rfl⟩, k2⟩
        obtain ⟨r0, r1, r2, r3, r4, rfl⟩ := five hl2
        have HB2 := hid ((HB1.out.2.trans k2).alloc (.cells #[.int .u64 r0, .int .u64 r1, .int .u64 r2, .int .u64 r3, .int .u64 r4] 87))
        have HL2 := hid hn2
        clear hl2 hn2 k2 HN HB1
        unfold arrV
        simp only [List.map_cons, List.map_nil]
        cases hok2 : okN xs y with
        | false =>
          go_wp2_with fail
          go_ret3
          refine ⟨⟨0, 0, ?_, ?_⟩, HB2.out⟩
          · intro f; rw [hok, HY.out.1, hok2] at f; cases f
          · rw [hok, HY.out.1, hok2]; rfl
        | true =>
          go_wp2_with fail
          go_ret3
          refine ⟨⟨p4, r4, ?_, ?_⟩, HB2.out⟩
          · intro _; exact ⟨by rw [← HL1.out hok]; rfl, by rw [HY.out.2, ← HL2.out hok2]; rfl⟩
          · rw [hok, HY.out.1, hok2]; rfl
end Go.Proofs.Ytalopkllldnipaa
