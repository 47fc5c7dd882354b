
/- Lines: walks of AppendInt, AppendUint (package strconv), written (package events). No statement of the seat is proved here. -/
import Derived.Test.YtjaldfmdjnkoeaaDoorEvD
import Derived.Test.YtjaldfmdjnkoeaaDoorLay
import Derived.Test.YtjaldfmdjnkoeaaDoorARoundC
import Derived.Lib.AppendStr
import Derived.Lib.OthersKept
import Derived.Lib.ItoaLen
namespace Go.Proofs.YtjaldfmdjnkoeaaDoor
open Go.RowKit Go.Shelf

theorem wp_held_end {P : Program} {ops : Array Oper} {Q : Exit → Act → World → Prop} {id : Nat} {a : Act} {w : World} {S : World → Prop} (N : Nat) (hN : ops.size = N) (hm : P.follows .mixedOrders = true)
    (h : wpAnyH P .any ops (atEnd (Q .normal)) S N (Array.replicate N false) a w.drew) : (Code.region id ops true).wp P Q a w := by
  subst hN
  exact Code.wp_mono (fun e a w h => by cases e <;> first | exact h | exact h.elim) (wp_region_held hm h)
theorem run_append_op2 {P : Program} {o : Oper} {a : Act} {w w' : World} {s x : Operand} {t u : TypeId} {v y v' : Value} (hop : o.op = Op.call { callee := Callee.builtin Builtin.append, args := #[s, x], argTypes := #[t, u] }) (hs : a.eval s = v) (hx : a.eval x = y)
    (hrun : (Builtin.append_ #[t, u] o.type #[v, y]).run P w = .ok v' w') : (execOp a.eval o).run P w = .ok (.value v') w' := by
  simp [execOp, hop, resolve, invoke, builtin, hs, hx, hrun, Result.andThen]
theorem hmx2 : Tryd.prog.follows .mixedOrders = true := by kernel_rfl

/-- What a writer of bytes leaves: what lies below its row, and all that is no row of bytes. -/
structure Bk (base : Nat) (w w' : World) : Prop where
  below : Below base w w'
  others : Lib.OthersKept 5 none w w'
theorem Bk.refl (base : Nat) (w : World) : Bk base w w := ⟨Below.refl _ _, Lib.OthersKept.refl _ _ _⟩
theorem Bk.trans {base : Nat} {a b c : World} (h : Bk base a b) (k : Bk base b c) : Bk base a c :=
  ⟨⟨k.below.os.trans h.below.os, k.below.tape.trans h.below.tape, k.below.output.trans h.below.output, Nat.le_trans h.below.size k.below.size, fun q hq => (k.below.block q hq).trans (h.below.block q hq)⟩, h.others.trans k.others⟩
theorem Bk.of_keeps {base : Nat} {a b : World} (k : Keeps (fun _ => False) a b) (hb : base ≤ a.heap.size) : Bk base a b :=
  ⟨⟨k.os, k.tape, k.output, k.size, fun q hq => k.block q (by omega) (fun f => f)⟩, fun q o h _ _ => (k.block q (lt_of_block h) (fun f => f)).trans h⟩
theorem Bk.block {base : Nat} {a b : World} (h : Bk base a b) {g : Nat} {c : Array Value} {t : TypeId} {fr : Nat × Nat} (hg : a.heap[g]? = some (.cells c t fr)) (ht : t ≠ 5) : b.heap[g]? = some (.cells c t fr) :=
  h.others g _ hg (by simp) (fun c' fz e => by injection e with _ e2 _; exact ht e2)
theorem Below.gv {w w' : World} {base : Nat} (h : Below base w w') (hb : 8 ≤ base) (hg : Gv w) (_h8 : base ≤ w.heap.size) : Gv w' :=
  hg.keepsB (S := fun q => base ≤ q) ⟨h.os, h.tape, h.output, h.size, fun q _ hs => h.block q (by omega)⟩ (fun q hq hs => by omega)
theorem bts_row {w : World} {base : Nat} {v : Value} {l : List UInt8} (h : Bts w base v l) {g : Nat} (hg : v.ownBlock = some g) : ∃ c fz, w.heap[g]? = some (.cells c 5 fz) := by
  rcases h.own.2 with ⟨rfl, _⟩ | ⟨g', cap, cur, rfl, _, h2, _⟩
  · cases hg
  · cases hg; exact ⟨_, _, h2⟩
theorem Bk.grown {base : Nat} {w w' : World} {v : Value} {l : List UInt8} (h : Bts w base v l) (hg : w.grownBy w' v.ownBlock) : Bk base w w' :=
  ⟨⟨hg.os, hg.tape, hg.output, hg.size, fun q hq => by
    by_cases hlt : q < w.heap.size
    · exact hg.block q hlt (fun e => by have := (own_block h.own e.symm).2; omega)
    · exact absurd (Nat.lt_of_lt_of_le hq h.base) hlt⟩, (Lib.OthersKept.refl _ _ w).grown hg (fun g hg => bts_row h hg)⟩
theorem Bts.drew {w : World} {base : Nat} {v : Value} {l : List UInt8} (h : Bts w base v l) : Bts w.drew base v l := h.keeps ((Keeps.refl (fun _ => False) w).drew) (fun _ _ f => f)
/-- A blank more. -/
theorem Bts.blank {w : World} {base : Nat} {v : Value} {l : List UInt8} (h : Bts w base v l) (x : UInt8) (z : Int) (hz : z = (x.toNat : Int)) (hb : l.length + 1 ≤ 140737488355328) :
    ∃ v' w', (Builtin.append_ #[79, 79] 79 #[v, .slice (some ⟨w.heap.size, 0, none⟩) 1 1]).run Tryd.prog (w.alloc (.cells #[.int .u8 z] 5)) = .ok v' w' ∧ Bts w' base v' (l ++ [x]) ∧ Bk base w w' := by
  subst hz
  have k0 := (Keeps.refl (fun _ => False) w).alloc (.cells #[.int .u8 x.toNat] 5)
  have h0 := h.keeps k0 (fun _ _ f => f)
  obtain ⟨v', w', h1, h2, h3, h4⟩ := own_push (P := Tryd.prog) (w.alloc (.cells #[.int .u8 x.toNat] 5)) base 79 79 5 (.int .u8 0) 1 1 Tryd.underlying79 info_u8 rfl (by decide) v l.length _ h0.own ⟨w.heap.size, 0, none⟩ 1 1 [.int .u8 x.toNat] rfl (fun j u hj => by
    match j with
    | 0 => simp at hj; subst hj; rw [addr_add, cell_of_block (MapKept.heap_alloc _ _).1]; rfl
    | j + 1 => simp at hj) (by simp [Value.oneCell']) (by omega) (by decide) h0.base
  exact ⟨v', w', h1, ⟨by simpa using h2, Nat.le_trans h0.base h3.size⟩, (Bk.of_keeps k0 h.base).trans (Bk.grown h0 h3)⟩
/-- A text more. -/
theorem Bts.str {w : World} {base : Nat} {v : Value} {l : List UInt8} (h : Bts w base v l) (m : List UInt8) (hb : l.length + m.length ≤ 140737488355328) :
    ∃ v' w', (Builtin.append_ #[79, 9] 79 #[v, .string ⟨m.toArray⟩]).run Tryd.prog w = .ok v' w' ∧ Bts w' base v' (l ++ m) ∧ Bk base w w' := by
  obtain ⟨i0, hi, hz0, hz1, hz2⟩ := info_parts info_u8
  have hs : (⟨m.toArray⟩ : ByteArray).size = m.length := by simp [ByteArray.size]
  obtain ⟨v', w', h1, h2, h3, _⟩ := Lib.run_append_own_string (P := Tryd.prog) w base 79 9 79 5 i0 Tryd.underlying79 Tryd.underlying9 hi hz0 hz1 hz2 v l.length _ h.own ⟨m.toArray⟩ (by rw [hs]; unfold maxLen; omega) (by rw [hs]; omega) h.base
  refine ⟨v', w', h1, ⟨?_, Nat.le_trans h.base h3.size⟩, Bk.grown h h3⟩
  rw [hs] at h2
  have e : (l.map fun b => Value.int .u8 b.toNat) ++ Lib.strCells ⟨m.toArray⟩ = (l ++ m).map fun b => Value.int .u8 b.toNat := by simp [Lib.strCells]
  rw [e] at h2
  simpa using h2
theorem tab_below {w : World} {B : Nat} (h : Lib.TabIs Tryd.prog w "internal/strconv.uint64pow10" .u64 Lib.pow10Tab) (hB : 8 ≤ B) : Lib.TabBelow Tryd.prog B w "internal/strconv.uint64pow10" .u64 Lib.pow10Tab :=
  fun w' hb => tab_keeps (S := fun q => B ≤ q) h ⟨hb.os, hb.tape, hb.output, hb.size, fun q _ hs => hb.block q (by omega)⟩ (fun q hq hs => by omega)
theorem appInt_any (n : Nat) (hn : n < 9223372036854775808) (w : World) (base : Nat) (v : Value) (l : List UInt8) (h : Bts w base v l) (hg : Gv w) (h8 : 8 ≤ base) (hb : l.length + 21 ≤ 140737488355328) :
    Calls Tryd.prog 62 #[v, .int .i64 (n : Int), .int .i64 10] w fun ex w' => ∃ v', ex = .returned v' ∧ Bts w' base v' (l ++ Lib.decDigits n) ∧ Bk base w w' := by
  refine (Any.strconv_AppendInt_10 lays176 base l.length (n : Int) (by omega) (by omega) v _ w h.own h.base hb (tab_below hg.pow h8)).mono ?_
  rintro ex w' ⟨v', rfl, h1, h2, h3⟩
  have e1 : Lib.itoa (n : Int) = Lib.decDigits n := by simp [Lib.itoa]
  rw [e1] at h1
  refine ⟨v', rfl, ⟨?_, Nat.le_trans h.base h2.size⟩, h2, h3⟩
  have e : (l.map fun b => Value.int .u8 b.toNat) ++ Lib.byteCells (Lib.decDigits n) = (l ++ Lib.decDigits n).map fun b => Value.int .u8 b.toNat := by simp [Lib.byteCells]
  rw [e] at h1
  rw [List.length_append]; exact h1
theorem appUint_any (n : Nat) (hn : n < 18446744073709551616) (w : World) (base : Nat) (v : Value) (l : List UInt8) (h : Bts w base v l) (hg : Gv w) (hb : l.length + 21 ≤ 140737488355328) :
    Calls Tryd.prog 63 #[v, .int .u64 (n : Int), .int .i64 10] w fun ex w' => ∃ v', ex = .returned v' ∧ Bts w' base v' (l ++ Lib.decDigits n) ∧ Bk base w w' := by
  have A : Calls Tryd.prog 73 #[v, .int .u64 (n : Int), .int .i64 10] w fun ex w' => ∃ v', ex = .returned v' ∧ Bts w' base v' (l ++ Lib.decDigits n) ∧ Bk base w w' := by
    refine (Any.internal_strconv_AppendUint_10 lays288 base l.length n hn v _ w h.own h.base (by omega) hg.pow).mono ?_
    rintro ex w' ⟨v', rfl, h1, h2, h3⟩
    refine ⟨v', rfl, ⟨?_, Nat.le_trans h.base h2.size⟩, h2, h3⟩
    have e : (l.map fun b => Value.int .u8 b.toNat) ++ Lib.byteCells (Lib.decDigits n) = (l ++ Lib.decDigits n).map fun b => Value.int .u8 b.toNat := by simp [Lib.byteCells]
    rw [e] at h1
    rw [List.length_append]; exact h1
  go_enter Tryd.func63, Tryd.ntmps63
  go_wp2_with fail
  refine A.mono ?_
  rintro ex w' ⟨v', rfl, h1, h2⟩
  go_wp2_with fail
  go_ret
  exact ⟨_, rfl, h1, h2⟩

/-- A line. -/
def nameL (e : Ev) : List UInt8 := if e.own then [111, 119, 110] else shL e.kd.toNat
def blankN (b : Bool) (n : Int) : List UInt8 := if b then 32 :: Lib.decDigits n.toNat else []
def lineL (e : Ev) : List UInt8 := Lib.decDigits e.th.toNat ++ 32 :: (nameL e ++ (blankN (adB e.kd) e.ad ++ (blankN (wdB e.kd) e.wd ++ blankN (erB e.kd) e.er)))
theorem dec20 {n : Nat} (h : n < 18446744073709551616) : (Lib.decDigits n).length ≤ 20 := by rw [Lib.decDigits_length]; exact Lib.nDigits_le20 n (by omega)
theorem shL_le (k : Nat) : (shL k).length ≤ 9 := by
  unfold shL
  have : ∀ l ∈ shNs, l.length ≤ 9 := by decide
  cases h : shNs[k]? with
  | none => simp
  | some l => exact this l (List.mem_of_getElem? h)

set_option maxRecDepth 100000 in
set_option maxHeartbeats 8000000 in
theorem written_any (base : Nat) (v : Value) (l : List UInt8) (e : Ev) (w : World) (h : Bts w base v l) (hf : formedE e = true) (hwf : e.wf) (hg : Gv w) (h8 : 8 ≤ base) (hb : l.length + 128 ≤ 140737488355328) :
    Calls Tryd.prog 42 #[v, .agg e.cells] w fun ex w' => ∃ v', ex = .returned v' ∧ Bts w' base v' (l ++ lineL e) ∧ Bk base w w' := by
  obtain ⟨t0, t8, q0, q1⟩ := formed_in hf
  have hown : e.own = true → e.kd = 2 := fun ho => by
    unfold formedE bareB at hf
    simp only [Bool.and_eq_true, Bool.or_eq_true, Bool.not_eq_true', decide_eq_true_eq] at hf
    rcases hf.1.2.1.1.1 with h | h
    · rw [ho] at h; cases h
    · exact h
  have her : erB e.kd = true → 0 ≤ e.er ∧ e.er < 7 := fun he => by
    unfold formedE lastB at hf
    simp only [Bool.and_eq_true, Bool.or_eq_true, Bool.not_eq_true', decide_eq_true_eq, decide_eq_false_iff_not] at hf
    have h9 : e.kd = 9 := by rcases kd12 q0 q1 with h | h | h | h | h | h | h | h | h | h | h | h <;> rw [h] at he <;> first | exact absurd he (by decide) | exact h
    rcases hf.2.2 with h | h
    · exact absurd h9 h
    · omega
  obtain ⟨-, -, ⟨a0, a1⟩, ⟨w0, w1⟩, -⟩ := hwf
  clear hf
  obtain ⟨th, kd, ad, wd, own, er⟩ := e
  dsimp only at *
  obtain ⟨k, rfl⟩ : ∃ k : Nat, kd = k := ⟨kd.toNat, by omega⟩
  obtain ⟨tn, rfl⟩ : ∃ k : Nat, th = k := ⟨th.toNat, by omega⟩
  obtain ⟨an, rfl⟩ : ∃ k : Nat, ad = k := ⟨ad.toNat, by omega⟩
  obtain ⟨wn, rfl⟩ : ∃ k : Nat, wd = k := ⟨wd.toNat, by omega⟩
  have hk : k < 13 := by omega
  have cn := hg.nm k hk
  have ca := hg.ad k hk
  have cw := hg.wd k hk
  have ce := hg.er k hk
  have hlt : 0 < w.heap.size := World.block_lt_of_cell? _ _ cn
  have hki : (k : Int) < 13 := by omega
  have hk0 : (0 : Int) ≤ k := by omega
  have h4 : (adB k = false ∧ wdB k = true ∧ erB k = false) ∨ (adB k = true ∧ wdB k = true ∧ erB k = false) ∨ (adB k = false ∧ wdB k = false ∧ erB k = false) ∨ (adB k = false ∧ wdB k = false ∧ erB k = true) := by
    rcases kd12 q0 q1 with h | h | h | h | h | h | h | h | h | h | h | h <;> rw [h] <;> decide
  have hLL : lineL ⟨(tn : Int), (k : Int), (an : Int), (wn : Int), own, er⟩ = Lib.decDigits tn ++ 32 :: ((if own then [111, 119, 110] else shL k) ++ (blankN (adB k) an ++ (blankN (wdB k) wn ++ blankN (erB k) er))) := by simp [lineL, nameL]
  rw [hLL]
  have hsn := shL_le k
  generalize shL k = nm at *
  have h20 := dec20 (n := tn) (by omega)
  have ha20 := dec20 (n := an) (by omega)
  have hw20 := dec20 (n := wn) (by omega)
  have hown2 : own = true → adB k = true ∧ wdB k = true ∧ erB k = false := fun ho => by
    have := hown ho
    obtain rfl : k = 2 := by omega
    decide
  clear hown hLL q0 q1
  generalize adB k = ab at *
  generalize wdB k = wb at *
  generalize erB k = eb at *
  obtain ⟨EC, hEC⟩ : ∃ EC, EC = (#[.int .i64 (tn : Int), .int .i64 (k : Int), .int .u64 (an : Int), .int .u64 (wn : Int), .bool own, .int .i64 er] : Array Value) := ⟨_, rfl⟩
  have HEC : Hid (EC = (#[.int .i64 (tn : Int), .int .i64 (k : Int), .int .u64 (an : Int), .int .u64 (wn : Int), .bool own, .int .i64 er] : Array Value)) := hEC
  obtain ⟨nx, hnx⟩ : ∃ nx, nx = if own then [111, 119, 110] else nm := ⟨_, rfl⟩
  rw [← hnx]
  have hnl : nx.length ≤ 9 := by rw [hnx]; split; simp; exact hsn
  obtain ⟨sb, hsb⟩ : ∃ sb, sb = w.heap.size + 1 := ⟨_, rfl⟩
  obtain ⟨eB, heB⟩ : ∃ eB, eB = w.heap.size := ⟨_, rfl⟩
  have ka := (Keeps.refl (fun _ => False) w).alloc (.cells #[.int .i64 (tn : Int), .int .i64 (k : Int), .int .u64 (an : Int), .int .u64 (wn : Int), .bool own, .int .i64 er] 44)
  have ba := (MapKept.heap_alloc w (.cells #[.int .i64 (tn : Int), .int .i64 (k : Int), .int .u64 (an : Int), .int .u64 (wn : Int), .bool own, .int .i64 er] 44)).1
  have kb := ka.alloc (.cells #[.string ⟨nx.toArray⟩, .bool ab, .bool wb, .bool eb] 107)
  have bb := (MapKept.heap_alloc (w.alloc (.cells #[.int .i64 (tn : Int), .int .i64 (k : Int), .int .u64 (an : Int), .int .u64 (wn : Int), .bool own, .int .i64 er] 44)) (.cells #[.string ⟨nx.toArray⟩, .bool ab, .bool wb, .bool eb] 107)).1
  have bc := (Below.heap_alloc (w.alloc (.cells #[.int .i64 (tn : Int), .int .i64 (k : Int), .int .u64 (an : Int), .int .u64 (wn : Int), .bool own, .int .i64 er] 44)) (.cells #[.string ⟨nx.toArray⟩, .bool ab, .bool wb, .bool eb] 107) _ (lt_of_block ba)).trans ba
  rw [show (w.alloc (.cells #[.int .i64 (tn : Int), .int .i64 (k : Int), .int .u64 (an : Int), .int .u64 (wn : Int), .bool own, .int .i64 er] 44)).heap.size = w.heap.size + 1 by simp, ← hsb] at bb
  rw [← heB] at bc
  replace bc := bc.trans (show _ = some (.cells EC 44 (0, 0)) by rw [hEC])
  have h0 := h.keeps kb (fun _ _ f => f)
  have B0 := Bk.of_keeps kb h.base
  have A0 := appInt_any tn (by omega) _ base v l h0 (hg.keeps kb) h8 (by omega)
  have HG : Hid (∀ X, Bk base w X → Gv X) := fun X k => Below.gv k.below h8 hg h.base
  clear hg h ba ka kb h0 hEC
  show Calls Tryd.prog 42 #[v, .agg #[.int .i64 (tn : Int), .int .i64 (k : Int), .int .u64 (an : Int), .int .u64 (wn : Int), .bool own, .int .i64 er]] w _
  have h5 : (own = false ∧ nx = nm) ∨ (own = true ∧ nx = [111, 119, 110] ∧ ab = true ∧ wb = true ∧ eb = false) := by
    cases own
    · left; simpa using hnx
    · right; obtain ⟨x1, x2, x3⟩ := hown2 rfl; exact ⟨rfl, by simpa using hnx, x1, x2, x3⟩
  clear hown2 hnx
  rcases h5 with ⟨rfl, hnx⟩ | ⟨rfl, hnx, rfl, rfl, rfl⟩
  · subst hnx
    rcases h4 with ⟨rfl, rfl, rfl⟩ | ⟨rfl, rfl, rfl⟩ | ⟨rfl, rfl, rfl⟩ | ⟨rfl, rfl, rfl⟩
    · go_enter Tryd.func42, Tryd.ntmps42
      go_wp2_with fail
      rw [← hsb, ← heB]
      clear heB hsb
      refine A0.mono ?_
      rintro ex W1 ⟨v1, rfl, hBW1, k1⟩
      have beW1 := k1.block bc (by decide)
      have bsW1 := k1.block bb (by decide)
      have bkW1 := B0.trans k1
      clear A0 k1 bc bb B0 cn ca cw ce
      go_wp2_with fail
      obtain ⟨v1a, W1a, ra1, rb1, rc1⟩ := (hBW1.drew).blank 32 32 rfl (by simp only [List.length_append]; omega)
      have HA1 : Hid ((Builtin.append_ #[79, 79] 79 #[v1, .slice (some ⟨W1.heap.size, 0, none⟩) 1 1]).run Tryd.prog (W1.drew.alloc (.cells #[.int .u8 32] 5)) = .ok v1a W1a) := ra1
      have Sd1 : (fun X : World => X.heap[eB]? = some (.cells EC 44 (0, 0)) ∧ X.heap[sb]? = some (.cells #[.string ⟨nx.toArray⟩, .bool false, .bool true, .bool false] 107 (0, 0))) W1.drew := ⟨beW1, bsW1⟩
      have Se1 : (fun X : World => X.heap[eB]? = some (.cells EC 44 (0, 0)) ∧ X.heap[sb]? = some (.cells #[.string ⟨nx.toArray⟩, .bool false, .bool true, .bool false] 107 (0, 0))) (W1.drew.alloc (.cells #[.int .u8 32] 5)) := ⟨(Below.heap_alloc _ _ _ (lt_of_block beW1)).trans beW1, (Below.heap_alloc _ _ _ (lt_of_block bsW1)).trans bsW1⟩
      have Sf1 : (fun X : World => X.heap[eB]? = some (.cells EC 44 (0, 0)) ∧ X.heap[sb]? = some (.cells #[.string ⟨nx.toArray⟩, .bool false, .bool true, .bool false] 107 (0, 0))) W1a := ⟨rc1.block (a := W1.drew) beW1 (by decide), rc1.block (a := W1.drew) bsW1 (by decide)⟩
      replace rc1 : Bk base W1 W1a := (Bk.of_keeps ((Keeps.refl (fun _ => False) W1).drew) hBW1.base).trans rc1
      obtain ⟨v1b, W1b, sa1, sc1, sd1⟩ := rb1.str nx (by simp only [List.length_append, List.length_cons, List.length_nil]; omega)
      have HB1 : Hid (_ = _) := sa1
      have Sg1 : (fun X : World => X.heap[eB]? = some (.cells EC 44 (0, 0)) ∧ X.heap[sb]? = some (.cells #[.string ⟨nx.toArray⟩, .bool false, .bool true, .bool false] 107 (0, 0))) W1b := ⟨sd1.block Sf1.1 (by decide), sd1.block Sf1.2 (by decide)⟩
      clear ra1
      refine wp_held_end (S := (fun X : World => X.heap[eB]? = some (.cells EC 44 (0, 0)) ∧ X.heap[sb]? = some (.cells #[.string ⟨nx.toArray⟩, .bool false, .bool true, .bool false] 107 (0, 0)))) 7 rfl hmx2 ?_
      simp only [Array.replicate_succ, Array.replicate_zero, List.push_toArray, List.nil_append, List.cons_append]
      refine held_take (i := 0) (v := v1) 17 rfl rfl (by kernel_rfl) (by kernel_rfl) (by kernel_rfl) rfl (fun w' hw' => by go_simp) Sd1 ?_
      simp only [Act.put, List.setIfInBounds_toArray, List.set_cons_zero, List.set_cons_succ]
      refine held_take (i := 3) (v := .pointer (some ⟨sb, 0, none⟩)) 20 rfl rfl (by kernel_rfl) (by kernel_rfl) (by kernel_rfl) rfl (fun w' hw' => by go_simp) Sd1 ?_
      simp only [Act.put, List.setIfInBounds_toArray, List.set_cons_zero, List.set_cons_succ]
      refine held_take (i := 4) (v := .string ⟨nx.toArray⟩) 21 rfl rfl (by kernel_rfl) (by kernel_rfl) (by kernel_rfl) rfl (fun w' hw' => by have cc : w'.cell? ⟨sb, 0, none⟩ = some (.string ⟨nx.toArray⟩) := (by rw [cell_of_block hw'.2]; rfl); clear hw'; go_simp) Sd1 ?_
      simp only [Act.put, List.setIfInBounds_toArray, List.set_cons_zero, List.set_cons_succ]
      refine held_val (i := 1) (v := .slice (some ⟨W1.heap.size, 0, none⟩) 1 1) (w' := W1.drew.alloc (.cells #[.int .u8 32] 5)) (some 18) (by kernel_rfl) rfl rfl rfl (by go_simp) Se1 ?_
      simp only [Act.put, List.setIfInBounds_toArray, List.set_cons_zero, List.set_cons_succ]
      refine held_val (i := 2) (v := v1a) (w' := W1a) (some 19) (by kernel_rfl) rfl rfl rfl (run_append_op2 rfl rfl rfl HA1.out) Sf1 ?_
      simp only [Act.put, List.setIfInBounds_toArray, List.set_cons_zero, List.set_cons_succ]
      refine held_val (i := 5) (v := v1b) (w' := W1b) (some 22) (by kernel_rfl) rfl rfl rfl (run_append_op2 rfl rfl rfl HB1.out) Sg1 ?_
      simp only [Act.put, List.setIfInBounds_toArray, List.set_cons_zero, List.set_cons_succ]
      refine held_val (i := 6) (v := v1b) (w' := W1b) (some 0) (by kernel_rfl) rfl rfl rfl (by go_simp) Sg1 ?_
      simp only [Act.put, List.setIfInBounds_toArray, List.set_cons_zero, List.set_cons_succ]
      refine held_end (by kernel_rfl) ?_ _
      have hBW1b : Bts W1b base v1b _ := sc1
      have beW1b := Sg1.1
      have bsW1b := Sg1.2
      have bkW1b := (bkW1.trans rc1).trans sd1
      have y0W1b : W1b.cell? ⟨sb, 1, none⟩ = some (.bool false) := by rw [cell_of_block bsW1b]; rfl
      have y1W1b : W1b.cell? ⟨sb, 2, none⟩ = some (.bool true) := by rw [cell_of_block bsW1b]; rfl
      have y2W1b : W1b.cell? ⟨sb, 3, none⟩ = some (.bool false) := by rw [cell_of_block bsW1b]; rfl
      clear Sd1 Se1 Sf1 Sg1 HA1 rb1 rc1 sc1 sd1 hBW1 beW1 bsW1 bkW1 HB1 sa1
      go_wp2_with fail
      obtain ⟨v2a, W2a, ra2, rb2, rc2⟩ := (hBW1b.drew).blank 32 32 rfl (by simp only [List.length_append, List.length_cons, List.length_nil]; omega)
      have HA2 : Hid ((Builtin.append_ #[79, 79] 79 #[v1b, .slice (some ⟨W1b.heap.size, 0, none⟩) 1 1]).run Tryd.prog (W1b.drew.alloc (.cells #[.int .u8 32] 5)) = .ok v2a W2a) := ra2
      have Sd2 : (fun X : World => X.heap[eB]? = some (.cells EC 44 (0, 0)) ∧ X.heap[sb]? = some (.cells #[.string ⟨nx.toArray⟩, .bool false, .bool true, .bool false] 107 (0, 0))) W1b.drew := ⟨beW1b, bsW1b⟩
      have Se2 : (fun X : World => X.heap[eB]? = some (.cells EC 44 (0, 0)) ∧ X.heap[sb]? = some (.cells #[.string ⟨nx.toArray⟩, .bool false, .bool true, .bool false] 107 (0, 0))) (W1b.drew.alloc (.cells #[.int .u8 32] 5)) := ⟨(Below.heap_alloc _ _ _ (lt_of_block beW1b)).trans beW1b, (Below.heap_alloc _ _ _ (lt_of_block bsW1b)).trans bsW1b⟩
      have Sf2 : (fun X : World => X.heap[eB]? = some (.cells EC 44 (0, 0)) ∧ X.heap[sb]? = some (.cells #[.string ⟨nx.toArray⟩, .bool false, .bool true, .bool false] 107 (0, 0))) W2a := ⟨rc2.block (a := W1b.drew) beW1b (by decide), rc2.block (a := W1b.drew) bsW1b (by decide)⟩
      replace rc2 : Bk base W1b W2a := (Bk.of_keeps ((Keeps.refl (fun _ => False) W1b).drew) hBW1b.base).trans rc2
      have CA2 := appUint_any wn (by omega) W2a base v2a _ rb2 (HG.out _ (bkW1b.trans rc2)) (by simp only [List.length_append, List.length_cons, List.length_nil]; omega)
      clear ra2
      refine wp_held_end (S := (fun X : World => X.heap[eB]? = some (.cells EC 44 (0, 0)) ∧ X.heap[sb]? = some (.cells #[.string ⟨nx.toArray⟩, .bool false, .bool true, .bool false] 107 (0, 0)))) 7 rfl hmx2 ?_
      simp only [Array.replicate_succ, Array.replicate_zero, List.push_toArray, List.nil_append, List.cons_append]
      refine held_take (i := 0) (v := v1b) 33 rfl rfl (by kernel_rfl) (by kernel_rfl) (by kernel_rfl) rfl (fun w' hw' => by go_simp) Sd2 ?_
      simp only [Act.put, List.setIfInBounds_toArray, List.set_cons_zero, List.set_cons_succ]
      refine held_take (i := 3) (v := .pointer (some ⟨eB, 3, none⟩)) 36 rfl rfl (by kernel_rfl) (by kernel_rfl) (by kernel_rfl) rfl (fun w' hw' => by go_simp) Sd2 ?_
      simp only [Act.put, List.setIfInBounds_toArray, List.set_cons_zero, List.set_cons_succ]
      refine held_take (i := 4) (v := .int .u64 (wn : Int)) 37 rfl rfl (by kernel_rfl) (by kernel_rfl) (by kernel_rfl) rfl (fun w' hw' => by have cc : w'.cell? ⟨eB, 3, none⟩ = some (.int .u64 (wn : Int)) := (by rw [cell_of_block hw'.1, HEC.out]; rfl); clear hw'; go_simp) Sd2 ?_
      simp only [Act.put, List.setIfInBounds_toArray, List.set_cons_zero, List.set_cons_succ]
      refine held_val (i := 1) (v := .slice (some ⟨W1b.heap.size, 0, none⟩) 1 1) (w' := W1b.drew.alloc (.cells #[.int .u8 32] 5)) (some 34) (by kernel_rfl) rfl rfl rfl (by go_simp) Se2 ?_
      simp only [Act.put, List.setIfInBounds_toArray, List.set_cons_zero, List.set_cons_succ]
      refine held_val (i := 2) (v := v2a) (w' := W2a) (some 35) (by kernel_rfl) rfl rfl rfl (run_append_op2 rfl rfl rfl HA2.out) Sf2 ?_
      simp only [Act.put, List.setIfInBounds_toArray, List.set_cons_zero, List.set_cons_succ]
      refine held_call (i := 5) (f := 63) (args := #[v2a, .int .u64 (wn : Int), .int .i64 10]) 38 (by kernel_rfl) rfl rfl rfl (by go_simp) ?_
      refine CA2.mono ?_
      rintro ex W2b ⟨v2b, rfl, sc2, sd2⟩
      have Sg2 : (fun X : World => X.heap[eB]? = some (.cells EC 44 (0, 0)) ∧ X.heap[sb]? = some (.cells #[.string ⟨nx.toArray⟩, .bool false, .bool true, .bool false] 107 (0, 0))) W2b := ⟨sd2.block Sf2.1 (by decide), sd2.block Sf2.2 (by decide)⟩
      refine ⟨_, rfl, Sg2, ?_⟩
      simp only [Act.put, List.setIfInBounds_toArray, List.set_cons_zero, List.set_cons_succ]
      refine held_val (i := 6) (v := v2b) (w' := W2b) (some 0) (by kernel_rfl) rfl rfl rfl (by go_simp) Sg2 ?_
      simp only [Act.put, List.setIfInBounds_toArray, List.set_cons_zero, List.set_cons_succ]
      refine held_end (by kernel_rfl) ?_ _
      have hBW2b : Bts W2b base v2b _ := sc2
      have beW2b := Sg2.1
      have bsW2b := Sg2.2
      have bkW2b := (bkW1b.trans rc2).trans sd2
      have y0W2b : W2b.cell? ⟨sb, 1, none⟩ = some (.bool false) := by rw [cell_of_block bsW2b]; rfl
      have y1W2b : W2b.cell? ⟨sb, 2, none⟩ = some (.bool true) := by rw [cell_of_block bsW2b]; rfl
      have y2W2b : W2b.cell? ⟨sb, 3, none⟩ = some (.bool false) := by rw [cell_of_block bsW2b]; rfl
      clear Sd2 Se2 Sf2 Sg2 HA2 rb2 rc2 sc2 sd2 hBW1b beW1b bsW1b bkW1b y0W1b y1W1b y2W1b CA2
      go_wp2_with fail
      go_ret
      refine ⟨_, rfl, ?_, bkW2b⟩
      have := hBW2b
      simpa [blankN] using this
    · go_enter Tryd.func42, Tryd.ntmps42
      go_wp2_with fail
      rw [← hsb, ← heB]
      clear heB hsb
      refine A0.mono ?_
      rintro ex W1 ⟨v1, rfl, hBW1, k1⟩
      have beW1 := k1.block bc (by decide)
      have bsW1 := k1.block bb (by decide)
      have bkW1 := B0.trans k1
      clear A0 k1 bc bb B0 cn ca cw ce
      go_wp2_with fail
      obtain ⟨v3a, W3a, ra3, rb3, rc3⟩ := (hBW1.drew).blank 32 32 rfl (by simp only [List.length_append]; omega)
      have HA3 : Hid ((Builtin.append_ #[79, 79] 79 #[v1, .slice (some ⟨W1.heap.size, 0, none⟩) 1 1]).run Tryd.prog (W1.drew.alloc (.cells #[.int .u8 32] 5)) = .ok v3a W3a) := ra3
      have Sd3 : (fun X : World => X.heap[eB]? = some (.cells EC 44 (0, 0)) ∧ X.heap[sb]? = some (.cells #[.string ⟨nx.toArray⟩, .bool true, .bool true, .bool false] 107 (0, 0))) W1.drew := ⟨beW1, bsW1⟩
      have Se3 : (fun X : World => X.heap[eB]? = some (.cells EC 44 (0, 0)) ∧ X.heap[sb]? = some (.cells #[.string ⟨nx.toArray⟩, .bool true, .bool true, .bool false] 107 (0, 0))) (W1.drew.alloc (.cells #[.int .u8 32] 5)) := ⟨(Below.heap_alloc _ _ _ (lt_of_block beW1)).trans beW1, (Below.heap_alloc _ _ _ (lt_of_block bsW1)).trans bsW1⟩
      have Sf3 : (fun X : World => X.heap[eB]? = some (.cells EC 44 (0, 0)) ∧ X.heap[sb]? = some (.cells #[.string ⟨nx.toArray⟩, .bool true, .bool true, .bool false] 107 (0, 0))) W3a := ⟨rc3.block (a := W1.drew) beW1 (by decide), rc3.block (a := W1.drew) bsW1 (by decide)⟩
      replace rc3 : Bk base W1 W3a := (Bk.of_keeps ((Keeps.refl (fun _ => False) W1).drew) hBW1.base).trans rc3
      obtain ⟨v3b, W3b, sa3, sc3, sd3⟩ := rb3.str nx (by simp only [List.length_append, List.length_cons, List.length_nil]; omega)
      have HB3 : Hid (_ = _) := sa3
      have Sg3 : (fun X : World => X.heap[eB]? = some (.cells EC 44 (0, 0)) ∧ X.heap[sb]? = some (.cells #[.string ⟨nx.toArray⟩, .bool true, .bool true, .bool false] 107 (0, 0))) W3b := ⟨sd3.block Sf3.1 (by decide), sd3.block Sf3.2 (by decide)⟩
      clear ra3
      refine wp_held_end (S := (fun X : World => X.heap[eB]? = some (.cells EC 44 (0, 0)) ∧ X.heap[sb]? = some (.cells #[.string ⟨nx.toArray⟩, .bool true, .bool true, .bool false] 107 (0, 0)))) 7 rfl hmx2 ?_
      simp only [Array.replicate_succ, Array.replicate_zero, List.push_toArray, List.nil_append, List.cons_append]
      refine held_take (i := 0) (v := v1) 17 rfl rfl (by kernel_rfl) (by kernel_rfl) (by kernel_rfl) rfl (fun w' hw' => by go_simp) Sd3 ?_
      simp only [Act.put, List.setIfInBounds_toArray, List.set_cons_zero, List.set_cons_succ]
      refine held_take (i := 3) (v := .pointer (some ⟨sb, 0, none⟩)) 20 rfl rfl (by kernel_rfl) (by kernel_rfl) (by kernel_rfl) rfl (fun w' hw' => by go_simp) Sd3 ?_
      simp only [Act.put, List.setIfInBounds_toArray, List.set_cons_zero, List.set_cons_succ]
      refine held_take (i := 4) (v := .string ⟨nx.toArray⟩) 21 rfl rfl (by kernel_rfl) (by kernel_rfl) (by kernel_rfl) rfl (fun w' hw' => by have cc : w'.cell? ⟨sb, 0, none⟩ = some (.string ⟨nx.toArray⟩) := (by rw [cell_of_block hw'.2]; rfl); clear hw'; go_simp) Sd3 ?_
      simp only [Act.put, List.setIfInBounds_toArray, List.set_cons_zero, List.set_cons_succ]
      refine held_val (i := 1) (v := .slice (some ⟨W1.heap.size, 0, none⟩) 1 1) (w' := W1.drew.alloc (.cells #[.int .u8 32] 5)) (some 18) (by kernel_rfl) rfl rfl rfl (by go_simp) Se3 ?_
      simp only [Act.put, List.setIfInBounds_toArray, List.set_cons_zero, List.set_cons_succ]
      refine held_val (i := 2) (v := v3a) (w' := W3a) (some 19) (by kernel_rfl) rfl rfl rfl (run_append_op2 rfl rfl rfl HA3.out) Sf3 ?_
      simp only [Act.put, List.setIfInBounds_toArray, List.set_cons_zero, List.set_cons_succ]
      refine held_val (i := 5) (v := v3b) (w' := W3b) (some 22) (by kernel_rfl) rfl rfl rfl (run_append_op2 rfl rfl rfl HB3.out) Sg3 ?_
      simp only [Act.put, List.setIfInBounds_toArray, List.set_cons_zero, List.set_cons_succ]
      refine held_val (i := 6) (v := v3b) (w' := W3b) (some 0) (by kernel_rfl) rfl rfl rfl (by go_simp) Sg3 ?_
      simp only [Act.put, List.setIfInBounds_toArray, List.set_cons_zero, List.set_cons_succ]
      refine held_end (by kernel_rfl) ?_ _
      have hBW3b : Bts W3b base v3b _ := sc3
      have beW3b := Sg3.1
      have bsW3b := Sg3.2
      have bkW3b := (bkW1.trans rc3).trans sd3
      have y0W3b : W3b.cell? ⟨sb, 1, none⟩ = some (.bool true) := by rw [cell_of_block bsW3b]; rfl
      have y1W3b : W3b.cell? ⟨sb, 2, none⟩ = some (.bool true) := by rw [cell_of_block bsW3b]; rfl
      have y2W3b : W3b.cell? ⟨sb, 3, none⟩ = some (.bool false) := by rw [cell_of_block bsW3b]; rfl
      clear Sd3 Se3 Sf3 Sg3 HA3 rb3 rc3 sc3 sd3 hBW1 beW1 bsW1 bkW1 HB3 sa3
      go_wp2_with fail
      obtain ⟨v4a, W4a, ra4, rb4, rc4⟩ := (hBW3b.drew).blank 32 32 rfl (by simp only [List.length_append, List.length_cons, List.length_nil]; omega)
      have HA4 : Hid ((Builtin.append_ #[79, 79] 79 #[v3b, .slice (some ⟨W3b.heap.size, 0, none⟩) 1 1]).run Tryd.prog (W3b.drew.alloc (.cells #[.int .u8 32] 5)) = .ok v4a W4a) := ra4
      have Sd4 : (fun X : World => X.heap[eB]? = some (.cells EC 44 (0, 0)) ∧ X.heap[sb]? = some (.cells #[.string ⟨nx.toArray⟩, .bool true, .bool true, .bool false] 107 (0, 0))) W3b.drew := ⟨beW3b, bsW3b⟩
      have Se4 : (fun X : World => X.heap[eB]? = some (.cells EC 44 (0, 0)) ∧ X.heap[sb]? = some (.cells #[.string ⟨nx.toArray⟩, .bool true, .bool true, .bool false] 107 (0, 0))) (W3b.drew.alloc (.cells #[.int .u8 32] 5)) := ⟨(Below.heap_alloc _ _ _ (lt_of_block beW3b)).trans beW3b, (Below.heap_alloc _ _ _ (lt_of_block bsW3b)).trans bsW3b⟩
      have Sf4 : (fun X : World => X.heap[eB]? = some (.cells EC 44 (0, 0)) ∧ X.heap[sb]? = some (.cells #[.string ⟨nx.toArray⟩, .bool true, .bool true, .bool false] 107 (0, 0))) W4a := ⟨rc4.block (a := W3b.drew) beW3b (by decide), rc4.block (a := W3b.drew) bsW3b (by decide)⟩
      replace rc4 : Bk base W3b W4a := (Bk.of_keeps ((Keeps.refl (fun _ => False) W3b).drew) hBW3b.base).trans rc4
      have CA4 := appUint_any an (by omega) W4a base v4a _ rb4 (HG.out _ (bkW3b.trans rc4)) (by simp only [List.length_append, List.length_cons, List.length_nil]; omega)
      clear ra4
      refine wp_held_end (S := (fun X : World => X.heap[eB]? = some (.cells EC 44 (0, 0)) ∧ X.heap[sb]? = some (.cells #[.string ⟨nx.toArray⟩, .bool true, .bool true, .bool false] 107 (0, 0)))) 7 rfl hmx2 ?_
      simp only [Array.replicate_succ, Array.replicate_zero, List.push_toArray, List.nil_append, List.cons_append]
      refine held_take (i := 0) (v := v3b) 25 rfl rfl (by kernel_rfl) (by kernel_rfl) (by kernel_rfl) rfl (fun w' hw' => by go_simp) Sd4 ?_
      simp only [Act.put, List.setIfInBounds_toArray, List.set_cons_zero, List.set_cons_succ]
      refine held_take (i := 3) (v := .pointer (some ⟨eB, 2, none⟩)) 28 rfl rfl (by kernel_rfl) (by kernel_rfl) (by kernel_rfl) rfl (fun w' hw' => by go_simp) Sd4 ?_
      simp only [Act.put, List.setIfInBounds_toArray, List.set_cons_zero, List.set_cons_succ]
      refine held_take (i := 4) (v := .int .u64 (an : Int)) 29 rfl rfl (by kernel_rfl) (by kernel_rfl) (by kernel_rfl) rfl (fun w' hw' => by have cc : w'.cell? ⟨eB, 2, none⟩ = some (.int .u64 (an : Int)) := (by rw [cell_of_block hw'.1, HEC.out]; rfl); clear hw'; go_simp) Sd4 ?_
      simp only [Act.put, List.setIfInBounds_toArray, List.set_cons_zero, List.set_cons_succ]
      refine held_val (i := 1) (v := .slice (some ⟨W3b.heap.size, 0, none⟩) 1 1) (w' := W3b.drew.alloc (.cells #[.int .u8 32] 5)) (some 26) (by kernel_rfl) rfl rfl rfl (by go_simp) Se4 ?_
      simp only [Act.put, List.setIfInBounds_toArray, List.set_cons_zero, List.set_cons_succ]
      refine held_val (i := 2) (v := v4a) (w' := W4a) (some 27) (by kernel_rfl) rfl rfl rfl (run_append_op2 rfl rfl rfl HA4.out) Sf4 ?_
      simp only [Act.put, List.setIfInBounds_toArray, List.set_cons_zero, List.set_cons_succ]
      refine held_call (i := 5) (f := 63) (args := #[v4a, .int .u64 (an : Int), .int .i64 10]) 30 (by kernel_rfl) rfl rfl rfl (by go_simp) ?_
      refine CA4.mono ?_
      rintro ex W4b ⟨v4b, rfl, sc4, sd4⟩
      have Sg4 : (fun X : World => X.heap[eB]? = some (.cells EC 44 (0, 0)) ∧ X.heap[sb]? = some (.cells #[.string ⟨nx.toArray⟩, .bool true, .bool true, .bool false] 107 (0, 0))) W4b := ⟨sd4.block Sf4.1 (by decide), sd4.block Sf4.2 (by decide)⟩
      refine ⟨_, rfl, Sg4, ?_⟩
      simp only [Act.put, List.setIfInBounds_toArray, List.set_cons_zero, List.set_cons_succ]
      refine held_val (i := 6) (v := v4b) (w' := W4b) (some 0) (by kernel_rfl) rfl rfl rfl (by go_simp) Sg4 ?_
      simp only [Act.put, List.setIfInBounds_toArray, List.set_cons_zero, List.set_cons_succ]
      refine held_end (by kernel_rfl) ?_ _
      have hBW4b : Bts W4b base v4b _ := sc4
      have beW4b := Sg4.1
      have bsW4b := Sg4.2
      have bkW4b := (bkW3b.trans rc4).trans sd4
      have y0W4b : W4b.cell? ⟨sb, 1, none⟩ = some (.bool true) := by rw [cell_of_block bsW4b]; rfl
      have y1W4b : W4b.cell? ⟨sb, 2, none⟩ = some (.bool true) := by rw [cell_of_block bsW4b]; rfl
      have y2W4b : W4b.cell? ⟨sb, 3, none⟩ = some (.bool false) := by rw [cell_of_block bsW4b]; rfl
      clear Sd4 Se4 Sf4 Sg4 HA4 rb4 rc4 sc4 sd4 hBW3b beW3b bsW3b bkW3b y0W3b y1W3b y2W3b CA4
      go_wp2_with fail
      obtain ⟨v5a, W5a, ra5, rb5, rc5⟩ := (hBW4b.drew).blank 32 32 rfl (by simp only [List.length_append, List.length_cons, List.length_nil]; omega)
      have HA5 : Hid ((Builtin.append_ #[79, 79] 79 #[v4b, .slice (some ⟨W4b.heap.size, 0, none⟩) 1 1]).run Tryd.prog (W4b.drew.alloc (.cells #[.int .u8 32] 5)) = .ok v5a W5a) := ra5
      have Sd5 : (fun X : World => X.heap[eB]? = some (.cells EC 44 (0, 0)) ∧ X.heap[sb]? = some (.cells #[.string ⟨nx.toArray⟩, .bool true, .bool true, .bool false] 107 (0, 0))) W4b.drew := ⟨beW4b, bsW4b⟩
      have Se5 : (fun X : World => X.heap[eB]? = some (.cells EC 44 (0, 0)) ∧ X.heap[sb]? = some (.cells #[.string ⟨nx.toArray⟩, .bool true, .bool true, .bool false] 107 (0, 0))) (W4b.drew.alloc (.cells #[.int .u8 32] 5)) := ⟨(Below.heap_alloc _ _ _ (lt_of_block beW4b)).trans beW4b, (Below.heap_alloc _ _ _ (lt_of_block bsW4b)).trans bsW4b⟩
      have Sf5 : (fun X : World => X.heap[eB]? = some (.cells EC 44 (0, 0)) ∧ X.heap[sb]? = some (.cells #[.string ⟨nx.toArray⟩, .bool true, .bool true, .bool false] 107 (0, 0))) W5a := ⟨rc5.block (a := W4b.drew) beW4b (by decide), rc5.block (a := W4b.drew) bsW4b (by decide)⟩
      replace rc5 : Bk base W4b W5a := (Bk.of_keeps ((Keeps.refl (fun _ => False) W4b).drew) hBW4b.base).trans rc5
      have CA5 := appUint_any wn (by omega) W5a base v5a _ rb5 (HG.out _ (bkW4b.trans rc5)) (by simp only [List.length_append, List.length_cons, List.length_nil]; omega)
      clear ra5
      refine wp_held_end (S := (fun X : World => X.heap[eB]? = some (.cells EC 44 (0, 0)) ∧ X.heap[sb]? = some (.cells #[.string ⟨nx.toArray⟩, .bool true, .bool true, .bool false] 107 (0, 0)))) 7 rfl hmx2 ?_
      simp only [Array.replicate_succ, Array.replicate_zero, List.push_toArray, List.nil_append, List.cons_append]
      refine held_take (i := 0) (v := v4b) 33 rfl rfl (by kernel_rfl) (by kernel_rfl) (by kernel_rfl) rfl (fun w' hw' => by go_simp) Sd5 ?_
      simp only [Act.put, List.setIfInBounds_toArray, List.set_cons_zero, List.set_cons_succ]
      refine held_take (i := 3) (v := .pointer (some ⟨eB, 3, none⟩)) 36 rfl rfl (by kernel_rfl) (by kernel_rfl) (by kernel_rfl) rfl (fun w' hw' => by go_simp) Sd5 ?_
      simp only [Act.put, List.setIfInBounds_toArray, List.set_cons_zero, List.set_cons_succ]
      refine held_take (i := 4) (v := .int .u64 (wn : Int)) 37 rfl rfl (by kernel_rfl) (by kernel_rfl) (by kernel_rfl) rfl (fun w' hw' => by have cc : w'.cell? ⟨eB, 3, none⟩ = some (.int .u64 (wn : Int)) := (by rw [cell_of_block hw'.1, HEC.out]; rfl); clear hw'; go_simp) Sd5 ?_
      simp only [Act.put, List.setIfInBounds_toArray, List.set_cons_zero, List.set_cons_succ]
      refine held_val (i := 1) (v := .slice (some ⟨W4b.heap.size, 0, none⟩) 1 1) (w' := W4b.drew.alloc (.cells #[.int .u8 32] 5)) (some 34) (by kernel_rfl) rfl rfl rfl (by go_simp) Se5 ?_
      simp only [Act.put, List.setIfInBounds_toArray, List.set_cons_zero, List.set_cons_succ]
      refine held_val (i := 2) (v := v5a) (w' := W5a) (some 35) (by kernel_rfl) rfl rfl rfl (run_append_op2 rfl rfl rfl HA5.out) Sf5 ?_
      simp only [Act.put, List.setIfInBounds_toArray, List.set_cons_zero, List.set_cons_succ]
      refine held_call (i := 5) (f := 63) (args := #[v5a, .int .u64 (wn : Int), .int .i64 10]) 38 (by kernel_rfl) rfl rfl rfl (by go_simp) ?_
      refine CA5.mono ?_
      rintro ex W5b ⟨v5b, rfl, sc5, sd5⟩
      have Sg5 : (fun X : World => X.heap[eB]? = some (.cells EC 44 (0, 0)) ∧ X.heap[sb]? = some (.cells #[.string ⟨nx.toArray⟩, .bool true, .bool true, .bool false] 107 (0, 0))) W5b := ⟨sd5.block Sf5.1 (by decide), sd5.block Sf5.2 (by decide)⟩
      refine ⟨_, rfl, Sg5, ?_⟩
      simp only [Act.put, List.setIfInBounds_toArray, List.set_cons_zero, List.set_cons_succ]
      refine held_val (i := 6) (v := v5b) (w' := W5b) (some 0) (by kernel_rfl) rfl rfl rfl (by go_simp) Sg5 ?_
      simp only [Act.put, List.setIfInBounds_toArray, List.set_cons_zero, List.set_cons_succ]
      refine held_end (by kernel_rfl) ?_ _
      have hBW5b : Bts W5b base v5b _ := sc5
      have beW5b := Sg5.1
      have bsW5b := Sg5.2
      have bkW5b := (bkW4b.trans rc5).trans sd5
      have y0W5b : W5b.cell? ⟨sb, 1, none⟩ = some (.bool true) := by rw [cell_of_block bsW5b]; rfl
      have y1W5b : W5b.cell? ⟨sb, 2, none⟩ = some (.bool true) := by rw [cell_of_block bsW5b]; rfl
      have y2W5b : W5b.cell? ⟨sb, 3, none⟩ = some (.bool false) := by rw [cell_of_block bsW5b]; rfl
      clear Sd5 Se5 Sf5 Sg5 HA5 rb5 rc5 sc5 sd5 hBW4b beW4b bsW4b bkW4b y0W4b y1W4b y2W4b CA5
      go_wp2_with fail
      go_ret
      refine ⟨_, rfl, ?_, bkW5b⟩
      have := hBW5b
      simpa [blankN] using this
    · go_enter Tryd.func42, Tryd.ntmps42
      go_wp2_with fail
      rw [← hsb, ← heB]
      clear heB hsb
      refine A0.mono ?_
      rintro ex W1 ⟨v1, rfl, hBW1, k1⟩
      have beW1 := k1.block bc (by decide)
      have bsW1 := k1.block bb (by decide)
      have bkW1 := B0.trans k1
      clear A0 k1 bc bb B0 cn ca cw ce
      go_wp2_with fail
      obtain ⟨v6a, W6a, ra6, rb6, rc6⟩ := (hBW1.drew).blank 32 32 rfl (by simp only [List.length_append]; omega)
      have HA6 : Hid ((Builtin.append_ #[79, 79] 79 #[v1, .slice (some ⟨W1.heap.size, 0, none⟩) 1 1]).run Tryd.prog (W1.drew.alloc (.cells #[.int .u8 32] 5)) = .ok v6a W6a) := ra6
      have Sd6 : (fun X : World => X.heap[eB]? = some (.cells EC 44 (0, 0)) ∧ X.heap[sb]? = some (.cells #[.string ⟨nx.toArray⟩, .bool false, .bool false, .bool false] 107 (0, 0))) W1.drew := ⟨beW1, bsW1⟩
      have Se6 : (fun X : World => X.heap[eB]? = some (.cells EC 44 (0, 0)) ∧ X.heap[sb]? = some (.cells #[.string ⟨nx.toArray⟩, .bool false, .bool false, .bool false] 107 (0, 0))) (W1.drew.alloc (.cells #[.int .u8 32] 5)) := ⟨(Below.heap_alloc _ _ _ (lt_of_block beW1)).trans beW1, (Below.heap_alloc _ _ _ (lt_of_block bsW1)).trans bsW1⟩
      have Sf6 : (fun X : World => X.heap[eB]? = some (.cells EC 44 (0, 0)) ∧ X.heap[sb]? = some (.cells #[.string ⟨nx.toArray⟩, .bool false, .bool false, .bool false] 107 (0, 0))) W6a := ⟨rc6.block (a := W1.drew) beW1 (by decide), rc6.block (a := W1.drew) bsW1 (by decide)⟩
      replace rc6 : Bk base W1 W6a := (Bk.of_keeps ((Keeps.refl (fun _ => False) W1).drew) hBW1.base).trans rc6
      obtain ⟨v6b, W6b, sa6, sc6, sd6⟩ := rb6.str nx (by simp only [List.length_append, List.length_cons, List.length_nil]; omega)
      have HB6 : Hid (_ = _) := sa6
      have Sg6 : (fun X : World => X.heap[eB]? = some (.cells EC 44 (0, 0)) ∧ X.heap[sb]? = some (.cells #[.string ⟨nx.toArray⟩, .bool false, .bool false, .bool false] 107 (0, 0))) W6b := ⟨sd6.block Sf6.1 (by decide), sd6.block Sf6.2 (by decide)⟩
      clear ra6
      refine wp_held_end (S := (fun X : World => X.heap[eB]? = some (.cells EC 44 (0, 0)) ∧ X.heap[sb]? = some (.cells #[.string ⟨nx.toArray⟩, .bool false, .bool false, .bool false] 107 (0, 0)))) 7 rfl hmx2 ?_
      simp only [Array.replicate_succ, Array.replicate_zero, List.push_toArray, List.nil_append, List.cons_append]
      refine held_take (i := 0) (v := v1) 17 rfl rfl (by kernel_rfl) (by kernel_rfl) (by kernel_rfl) rfl (fun w' hw' => by go_simp) Sd6 ?_
      simp only [Act.put, List.setIfInBounds_toArray, List.set_cons_zero, List.set_cons_succ]
      refine held_take (i := 3) (v := .pointer (some ⟨sb, 0, none⟩)) 20 rfl rfl (by kernel_rfl) (by kernel_rfl) (by kernel_rfl) rfl (fun w' hw' => by go_simp) Sd6 ?_
      simp only [Act.put, List.setIfInBounds_toArray, List.set_cons_zero, List.set_cons_succ]
      refine held_take (i := 4) (v := .string ⟨nx.toArray⟩) 21 rfl rfl (by kernel_rfl) (by kernel_rfl) (by kernel_rfl) rfl (fun w' hw' => by have cc : w'.cell? ⟨sb, 0, none⟩ = some (.string ⟨nx.toArray⟩) := (by rw [cell_of_block hw'.2]; rfl); clear hw'; go_simp) Sd6 ?_
      simp only [Act.put, List.setIfInBounds_toArray, List.set_cons_zero, List.set_cons_succ]
      refine held_val (i := 1) (v := .slice (some ⟨W1.heap.size, 0, none⟩) 1 1) (w' := W1.drew.alloc (.cells #[.int .u8 32] 5)) (some 18) (by kernel_rfl) rfl rfl rfl (by go_simp) Se6 ?_
      simp only [Act.put, List.setIfInBounds_toArray, List.set_cons_zero, List.set_cons_succ]
      refine held_val (i := 2) (v := v6a) (w' := W6a) (some 19) (by kernel_rfl) rfl rfl rfl (run_append_op2 rfl rfl rfl HA6.out) Sf6 ?_
      simp only [Act.put, List.setIfInBounds_toArray, List.set_cons_zero, List.set_cons_succ]
      refine held_val (i := 5) (v := v6b) (w' := W6b) (some 22) (by kernel_rfl) rfl rfl rfl (run_append_op2 rfl rfl rfl HB6.out) Sg6 ?_
      simp only [Act.put, List.setIfInBounds_toArray, List.set_cons_zero, List.set_cons_succ]
      refine held_val (i := 6) (v := v6b) (w' := W6b) (some 0) (by kernel_rfl) rfl rfl rfl (by go_simp) Sg6 ?_
      simp only [Act.put, List.setIfInBounds_toArray, List.set_cons_zero, List.set_cons_succ]
      refine held_end (by kernel_rfl) ?_ _
      have hBW6b : Bts W6b base v6b _ := sc6
      have beW6b := Sg6.1
      have bsW6b := Sg6.2
      have bkW6b := (bkW1.trans rc6).trans sd6
      have y0W6b : W6b.cell? ⟨sb, 1, none⟩ = some (.bool false) := by rw [cell_of_block bsW6b]; rfl
      have y1W6b : W6b.cell? ⟨sb, 2, none⟩ = some (.bool false) := by rw [cell_of_block bsW6b]; rfl
      have y2W6b : W6b.cell? ⟨sb, 3, none⟩ = some (.bool false) := by rw [cell_of_block bsW6b]; rfl
      clear Sd6 Se6 Sf6 Sg6 HA6 rb6 rc6 sc6 sd6 hBW1 beW1 bsW1 bkW1 HB6 sa6
      go_wp2_with fail
      go_ret
      refine ⟨_, rfl, ?_, bkW6b⟩
      have := hBW6b
      simpa [blankN] using this
    · have he6 := her rfl
      obtain ⟨en, rfl⟩ : ∃ k : Nat, er = k := ⟨er.toNat, by omega⟩
      have he20 := dec20 (n := en) (by omega)
      go_enter Tryd.func42, Tryd.ntmps42
      go_wp2_with fail
      rw [← hsb, ← heB]
      clear heB hsb
      refine A0.mono ?_
      rintro ex W1 ⟨v1, rfl, hBW1, k1⟩
      have beW1 := k1.block bc (by decide)
      have bsW1 := k1.block bb (by decide)
      have bkW1 := B0.trans k1
      clear A0 k1 bc bb B0 cn ca cw ce
      go_wp2_with fail
      obtain ⟨v7a, W7a, ra7, rb7, rc7⟩ := (hBW1.drew).blank 32 32 rfl (by simp only [List.length_append]; omega)
      have HA7 : Hid ((Builtin.append_ #[79, 79] 79 #[v1, .slice (some ⟨W1.heap.size, 0, none⟩) 1 1]).run Tryd.prog (W1.drew.alloc (.cells #[.int .u8 32] 5)) = .ok v7a W7a) := ra7
      have Sd7 : (fun X : World => X.heap[eB]? = some (.cells EC 44 (0, 0)) ∧ X.heap[sb]? = some (.cells #[.string ⟨nx.toArray⟩, .bool false, .bool false, .bool true] 107 (0, 0))) W1.drew := ⟨beW1, bsW1⟩
      have Se7 : (fun X : World => X.heap[eB]? = some (.cells EC 44 (0, 0)) ∧ X.heap[sb]? = some (.cells #[.string ⟨nx.toArray⟩, .bool false, .bool false, .bool true] 107 (0, 0))) (W1.drew.alloc (.cells #[.int .u8 32] 5)) := ⟨(Below.heap_alloc _ _ _ (lt_of_block beW1)).trans beW1, (Below.heap_alloc _ _ _ (lt_of_block bsW1)).trans bsW1⟩
      have Sf7 : (fun X : World => X.heap[eB]? = some (.cells EC 44 (0, 0)) ∧ X.heap[sb]? = some (.cells #[.string ⟨nx.toArray⟩, .bool false, .bool false, .bool true] 107 (0, 0))) W7a := ⟨rc7.block (a := W1.drew) beW1 (by decide), rc7.block (a := W1.drew) bsW1 (by decide)⟩
      replace rc7 : Bk base W1 W7a := (Bk.of_keeps ((Keeps.refl (fun _ => False) W1).drew) hBW1.base).trans rc7
      obtain ⟨v7b, W7b, sa7, sc7, sd7⟩ := rb7.str nx (by simp only [List.length_append, List.length_cons, List.length_nil]; omega)
      have HB7 : Hid (_ = _) := sa7
      have Sg7 : (fun X : World => X.heap[eB]? = some (.cells EC 44 (0, 0)) ∧ X.heap[sb]? = some (.cells #[.string ⟨nx.toArray⟩, .bool false, .bool false, .bool true] 107 (0, 0))) W7b := ⟨sd7.block Sf7.1 (by decide), sd7.block Sf7.2 (by decide)⟩
      clear ra7
      refine wp_held_end (S := (fun X : World => X.heap[eB]? = some (.cells EC 44 (0, 0)) ∧ X.heap[sb]? = some (.cells #[.string ⟨nx.toArray⟩, .bool false, .bool false, .bool true] 107 (0, 0)))) 7 rfl hmx2 ?_
      simp only [Array.replicate_succ, Array.replicate_zero, List.push_toArray, List.nil_append, List.cons_append]
      refine held_take (i := 0) (v := v1) 17 rfl rfl (by kernel_rfl) (by kernel_rfl) (by kernel_rfl) rfl (fun w' hw' => by go_simp) Sd7 ?_
      simp only [Act.put, List.setIfInBounds_toArray, List.set_cons_zero, List.set_cons_succ]
      refine held_take (i := 3) (v := .pointer (some ⟨sb, 0, none⟩)) 20 rfl rfl (by kernel_rfl) (by kernel_rfl) (by kernel_rfl) rfl (fun w' hw' => by go_simp) Sd7 ?_
      simp only [Act.put, List.setIfInBounds_toArray, List.set_cons_zero, List.set_cons_succ]
      refine held_take (i := 4) (v := .string ⟨nx.toArray⟩) 21 rfl rfl (by kernel_rfl) (by kernel_rfl) (by kernel_rfl) rfl (fun w' hw' => by have cc : w'.cell? ⟨sb, 0, none⟩ = some (.string ⟨nx.toArray⟩) := (by rw [cell_of_block hw'.2]; rfl); clear hw'; go_simp) Sd7 ?_
      simp only [Act.put, List.setIfInBounds_toArray, List.set_cons_zero, List.set_cons_succ]
      refine held_val (i := 1) (v := .slice (some ⟨W1.heap.size, 0, none⟩) 1 1) (w' := W1.drew.alloc (.cells #[.int .u8 32] 5)) (some 18) (by kernel_rfl) rfl rfl rfl (by go_simp) Se7 ?_
      simp only [Act.put, List.setIfInBounds_toArray, List.set_cons_zero, List.set_cons_succ]
      refine held_val (i := 2) (v := v7a) (w' := W7a) (some 19) (by kernel_rfl) rfl rfl rfl (run_append_op2 rfl rfl rfl HA7.out) Sf7 ?_
      simp only [Act.put, List.setIfInBounds_toArray, List.set_cons_zero, List.set_cons_succ]
      refine held_val (i := 5) (v := v7b) (w' := W7b) (some 22) (by kernel_rfl) rfl rfl rfl (run_append_op2 rfl rfl rfl HB7.out) Sg7 ?_
      simp only [Act.put, List.setIfInBounds_toArray, List.set_cons_zero, List.set_cons_succ]
      refine held_val (i := 6) (v := v7b) (w' := W7b) (some 0) (by kernel_rfl) rfl rfl rfl (by go_simp) Sg7 ?_
      simp only [Act.put, List.setIfInBounds_toArray, List.set_cons_zero, List.set_cons_succ]
      refine held_end (by kernel_rfl) ?_ _
      have hBW7b : Bts W7b base v7b _ := sc7
      have beW7b := Sg7.1
      have bsW7b := Sg7.2
      have bkW7b := (bkW1.trans rc7).trans sd7
      have y0W7b : W7b.cell? ⟨sb, 1, none⟩ = some (.bool false) := by rw [cell_of_block bsW7b]; rfl
      have y1W7b : W7b.cell? ⟨sb, 2, none⟩ = some (.bool false) := by rw [cell_of_block bsW7b]; rfl
      have y2W7b : W7b.cell? ⟨sb, 3, none⟩ = some (.bool true) := by rw [cell_of_block bsW7b]; rfl
      clear Sd7 Se7 Sf7 Sg7 HA7 rb7 rc7 sc7 sd7 hBW1 beW1 bsW1 bkW1 HB7 sa7
      go_wp2_with fail
      obtain ⟨v8a, W8a, ra8, rb8, rc8⟩ := (hBW7b.drew).blank 32 32 rfl (by simp only [List.length_append, List.length_cons, List.length_nil]; omega)
      have HA8 : Hid ((Builtin.append_ #[79, 79] 79 #[v7b, .slice (some ⟨W7b.heap.size, 0, none⟩) 1 1]).run Tryd.prog (W7b.drew.alloc (.cells #[.int .u8 32] 5)) = .ok v8a W8a) := ra8
      have Sd8 : (fun X : World => X.heap[eB]? = some (.cells EC 44 (0, 0)) ∧ X.heap[sb]? = some (.cells #[.string ⟨nx.toArray⟩, .bool false, .bool false, .bool true] 107 (0, 0))) W7b.drew := ⟨beW7b, bsW7b⟩
      have Se8 : (fun X : World => X.heap[eB]? = some (.cells EC 44 (0, 0)) ∧ X.heap[sb]? = some (.cells #[.string ⟨nx.toArray⟩, .bool false, .bool false, .bool true] 107 (0, 0))) (W7b.drew.alloc (.cells #[.int .u8 32] 5)) := ⟨(Below.heap_alloc _ _ _ (lt_of_block beW7b)).trans beW7b, (Below.heap_alloc _ _ _ (lt_of_block bsW7b)).trans bsW7b⟩
      have Sf8 : (fun X : World => X.heap[eB]? = some (.cells EC 44 (0, 0)) ∧ X.heap[sb]? = some (.cells #[.string ⟨nx.toArray⟩, .bool false, .bool false, .bool true] 107 (0, 0))) W8a := ⟨rc8.block (a := W7b.drew) beW7b (by decide), rc8.block (a := W7b.drew) bsW7b (by decide)⟩
      replace rc8 : Bk base W7b W8a := (Bk.of_keeps ((Keeps.refl (fun _ => False) W7b).drew) hBW7b.base).trans rc8
      have CA8 := appInt_any en (by omega) W8a base v8a _ rb8 (HG.out _ (bkW7b.trans rc8)) h8 (by simp only [List.length_append, List.length_cons, List.length_nil]; omega)
      clear ra8
      refine wp_held_end (S := (fun X : World => X.heap[eB]? = some (.cells EC 44 (0, 0)) ∧ X.heap[sb]? = some (.cells #[.string ⟨nx.toArray⟩, .bool false, .bool false, .bool true] 107 (0, 0)))) 7 rfl hmx2 ?_
      simp only [Array.replicate_succ, Array.replicate_zero, List.push_toArray, List.nil_append, List.cons_append]
      refine held_take (i := 0) (v := v7b) 41 rfl rfl (by kernel_rfl) (by kernel_rfl) (by kernel_rfl) rfl (fun w' hw' => by go_simp) Sd8 ?_
      simp only [Act.put, List.setIfInBounds_toArray, List.set_cons_zero, List.set_cons_succ]
      refine held_take (i := 3) (v := .pointer (some ⟨eB, 5, none⟩)) 44 rfl rfl (by kernel_rfl) (by kernel_rfl) (by kernel_rfl) rfl (fun w' hw' => by go_simp) Sd8 ?_
      simp only [Act.put, List.setIfInBounds_toArray, List.set_cons_zero, List.set_cons_succ]
      refine held_take (i := 4) (v := .int .i64 (en : Int)) 45 rfl rfl (by kernel_rfl) (by kernel_rfl) (by kernel_rfl) rfl (fun w' hw' => by have cc : w'.cell? ⟨eB, 5, none⟩ = some (.int .i64 (en : Int)) := (by rw [cell_of_block hw'.1, HEC.out]; rfl); clear hw'; go_simp) Sd8 ?_
      simp only [Act.put, List.setIfInBounds_toArray, List.set_cons_zero, List.set_cons_succ]
      refine held_val (i := 1) (v := .slice (some ⟨W7b.heap.size, 0, none⟩) 1 1) (w' := W7b.drew.alloc (.cells #[.int .u8 32] 5)) (some 42) (by kernel_rfl) rfl rfl rfl (by go_simp) Se8 ?_
      simp only [Act.put, List.setIfInBounds_toArray, List.set_cons_zero, List.set_cons_succ]
      refine held_val (i := 2) (v := v8a) (w' := W8a) (some 43) (by kernel_rfl) rfl rfl rfl (run_append_op2 rfl rfl rfl HA8.out) Sf8 ?_
      simp only [Act.put, List.setIfInBounds_toArray, List.set_cons_zero, List.set_cons_succ]
      refine held_call (i := 5) (f := 62) (args := #[v8a, .int .i64 (en : Int), .int .i64 10]) 46 (by kernel_rfl) rfl rfl rfl (by go_simp) ?_
      refine CA8.mono ?_
      rintro ex W8b ⟨v8b, rfl, sc8, sd8⟩
      have Sg8 : (fun X : World => X.heap[eB]? = some (.cells EC 44 (0, 0)) ∧ X.heap[sb]? = some (.cells #[.string ⟨nx.toArray⟩, .bool false, .bool false, .bool true] 107 (0, 0))) W8b := ⟨sd8.block Sf8.1 (by decide), sd8.block Sf8.2 (by decide)⟩
      refine ⟨_, rfl, Sg8, ?_⟩
      simp only [Act.put, List.setIfInBounds_toArray, List.set_cons_zero, List.set_cons_succ]
      refine held_val (i := 6) (v := v8b) (w' := W8b) (some 0) (by kernel_rfl) rfl rfl rfl (by go_simp) Sg8 ?_
      simp only [Act.put, List.setIfInBounds_toArray, List.set_cons_zero, List.set_cons_succ]
      refine held_end (by kernel_rfl) ?_ _
      have hBW8b : Bts W8b base v8b _ := sc8
      have beW8b := Sg8.1
      have bsW8b := Sg8.2
      have bkW8b := (bkW7b.trans rc8).trans sd8
      have y0W8b : W8b.cell? ⟨sb, 1, none⟩ = some (.bool false) := by rw [cell_of_block bsW8b]; rfl
      have y1W8b : W8b.cell? ⟨sb, 2, none⟩ = some (.bool false) := by rw [cell_of_block bsW8b]; rfl
      have y2W8b : W8b.cell? ⟨sb, 3, none⟩ = some (.bool true) := by rw [cell_of_block bsW8b]; rfl
      clear Sd8 Se8 Sf8 Sg8 HA8 rb8 rc8 sc8 sd8 hBW7b beW7b bsW7b bkW7b y0W7b y1W7b y2W7b CA8
      go_wp2_with fail
      go_ret
      refine ⟨_, rfl, ?_, bkW8b⟩
      have := hBW8b
      simpa [blankN] using this
  · have hx : (⟨#[111, 119, 110]⟩ : ByteArray) = ⟨nx.toArray⟩ := by rw [hnx]
    have HX : Hid ((⟨#[111, 119, 110]⟩ : ByteArray) = ⟨nx.toArray⟩) := hx
    clear hx hnx
    go_enter Tryd.func42, Tryd.ntmps42
    go_wp2_with fail
    rw [HX.out]
    rw [← hsb, ← heB]
    clear heB hsb
    refine A0.mono ?_
    rintro ex W1 ⟨v1, rfl, hBW1, k1⟩
    have beW1 := k1.block bc (by decide)
    have bsW1 := k1.block bb (by decide)
    have bkW1 := B0.trans k1
    clear A0 k1 bc bb B0 cn ca cw ce
    go_wp2_with fail
    obtain ⟨v9a, W9a, ra9, rb9, rc9⟩ := (hBW1.drew).blank 32 32 rfl (by simp only [List.length_append]; omega)
    have HA9 : Hid ((Builtin.append_ #[79, 79] 79 #[v1, .slice (some ⟨W1.heap.size, 0, none⟩) 1 1]).run Tryd.prog (W1.drew.alloc (.cells #[.int .u8 32] 5)) = .ok v9a W9a) := ra9
    have Sd9 : (fun X : World => X.heap[eB]? = some (.cells EC 44 (0, 0)) ∧ X.heap[sb]? = some (.cells #[.string ⟨nx.toArray⟩, .bool true, .bool true, .bool false] 107 (0, 0))) W1.drew := ⟨beW1, bsW1⟩
    have Se9 : (fun X : World => X.heap[eB]? = some (.cells EC 44 (0, 0)) ∧ X.heap[sb]? = some (.cells #[.string ⟨nx.toArray⟩, .bool true, .bool true, .bool false] 107 (0, 0))) (W1.drew.alloc (.cells #[.int .u8 32] 5)) := ⟨(Below.heap_alloc _ _ _ (lt_of_block beW1)).trans beW1, (Below.heap_alloc _ _ _ (lt_of_block bsW1)).trans bsW1⟩
    have Sf9 : (fun X : World => X.heap[eB]? = some (.cells EC 44 (0, 0)) ∧ X.heap[sb]? = some (.cells #[.string ⟨nx.toArray⟩, .bool true, .bool true, .bool false] 107 (0, 0))) W9a := ⟨rc9.block (a := W1.drew) beW1 (by decide), rc9.block (a := W1.drew) bsW1 (by decide)⟩
    replace rc9 : Bk base W1 W9a := (Bk.of_keeps ((Keeps.refl (fun _ => False) W1).drew) hBW1.base).trans rc9
    obtain ⟨v9b, W9b, sa9, sc9, sd9⟩ := rb9.str nx (by simp only [List.length_append, List.length_cons, List.length_nil]; omega)
    have HB9 : Hid (_ = _) := sa9
    have Sg9 : (fun X : World => X.heap[eB]? = some (.cells EC 44 (0, 0)) ∧ X.heap[sb]? = some (.cells #[.string ⟨nx.toArray⟩, .bool true, .bool true, .bool false] 107 (0, 0))) W9b := ⟨sd9.block Sf9.1 (by decide), sd9.block Sf9.2 (by decide)⟩
    clear ra9
    refine wp_held_end (S := (fun X : World => X.heap[eB]? = some (.cells EC 44 (0, 0)) ∧ X.heap[sb]? = some (.cells #[.string ⟨nx.toArray⟩, .bool true, .bool true, .bool false] 107 (0, 0)))) 7 rfl hmx2 ?_
    simp only [Array.replicate_succ, Array.replicate_zero, List.push_toArray, List.nil_append, List.cons_append]
    refine held_take (i := 0) (v := v1) 17 rfl rfl (by kernel_rfl) (by kernel_rfl) (by kernel_rfl) rfl (fun w' hw' => by go_simp) Sd9 ?_
    simp only [Act.put, List.setIfInBounds_toArray, List.set_cons_zero, List.set_cons_succ]
    refine held_take (i := 3) (v := .pointer (some ⟨sb, 0, none⟩)) 20 rfl rfl (by kernel_rfl) (by kernel_rfl) (by kernel_rfl) rfl (fun w' hw' => by go_simp) Sd9 ?_
    simp only [Act.put, List.setIfInBounds_toArray, List.set_cons_zero, List.set_cons_succ]
    refine held_take (i := 4) (v := .string ⟨nx.toArray⟩) 21 rfl rfl (by kernel_rfl) (by kernel_rfl) (by kernel_rfl) rfl (fun w' hw' => by have cc : w'.cell? ⟨sb, 0, none⟩ = some (.string ⟨nx.toArray⟩) := (by rw [cell_of_block hw'.2]; rfl); clear hw'; go_simp) Sd9 ?_
    simp only [Act.put, List.setIfInBounds_toArray, List.set_cons_zero, List.set_cons_succ]
    refine held_val (i := 1) (v := .slice (some ⟨W1.heap.size, 0, none⟩) 1 1) (w' := W1.drew.alloc (.cells #[.int .u8 32] 5)) (some 18) (by kernel_rfl) rfl rfl rfl (by go_simp) Se9 ?_
    simp only [Act.put, List.setIfInBounds_toArray, List.set_cons_zero, List.set_cons_succ]
    refine held_val (i := 2) (v := v9a) (w' := W9a) (some 19) (by kernel_rfl) rfl rfl rfl (run_append_op2 rfl rfl rfl HA9.out) Sf9 ?_
    simp only [Act.put, List.setIfInBounds_toArray, List.set_cons_zero, List.set_cons_succ]
    refine held_val (i := 5) (v := v9b) (w' := W9b) (some 22) (by kernel_rfl) rfl rfl rfl (run_append_op2 rfl rfl rfl HB9.out) Sg9 ?_
    simp only [Act.put, List.setIfInBounds_toArray, List.set_cons_zero, List.set_cons_succ]
    refine held_val (i := 6) (v := v9b) (w' := W9b) (some 0) (by kernel_rfl) rfl rfl rfl (by go_simp) Sg9 ?_
    simp only [Act.put, List.setIfInBounds_toArray, List.set_cons_zero, List.set_cons_succ]
    refine held_end (by kernel_rfl) ?_ _
    have hBW9b : Bts W9b base v9b _ := sc9
    have beW9b := Sg9.1
    have bsW9b := Sg9.2
    have bkW9b := (bkW1.trans rc9).trans sd9
    have y0W9b : W9b.cell? ⟨sb, 1, none⟩ = some (.bool true) := by rw [cell_of_block bsW9b]; rfl
    have y1W9b : W9b.cell? ⟨sb, 2, none⟩ = some (.bool true) := by rw [cell_of_block bsW9b]; rfl
    have y2W9b : W9b.cell? ⟨sb, 3, none⟩ = some (.bool false) := by rw [cell_of_block bsW9b]; rfl
    clear Sd9 Se9 Sf9 Sg9 HA9 rb9 rc9 sc9 sd9 hBW1 beW1 bsW1 bkW1 HB9 sa9
    go_wp2_with fail
    obtain ⟨v10a, W10a, ra10, rb10, rc10⟩ := (hBW9b.drew).blank 32 32 rfl (by simp only [List.length_append, List.length_cons, List.length_nil]; omega)
    have HA10 : Hid ((Builtin.append_ #[79, 79] 79 #[v9b, .slice (some ⟨W9b.heap.size, 0, none⟩) 1 1]).run Tryd.prog (W9b.drew.alloc (.cells #[.int .u8 32] 5)) = .ok v10a W10a) := ra10
    have Sd10 : (fun X : World => X.heap[eB]? = some (.cells EC 44 (0, 0)) ∧ X.heap[sb]? = some (.cells #[.string ⟨nx.toArray⟩, .bool true, .bool true, .bool false] 107 (0, 0))) W9b.drew := ⟨beW9b, bsW9b⟩
    have Se10 : (fun X : World => X.heap[eB]? = some (.cells EC 44 (0, 0)) ∧ X.heap[sb]? = some (.cells #[.string ⟨nx.toArray⟩, .bool true, .bool true, .bool false] 107 (0, 0))) (W9b.drew.alloc (.cells #[.int .u8 32] 5)) := ⟨(Below.heap_alloc _ _ _ (lt_of_block beW9b)).trans beW9b, (Below.heap_alloc _ _ _ (lt_of_block bsW9b)).trans bsW9b⟩
    have Sf10 : (fun X : World => X.heap[eB]? = some (.cells EC 44 (0, 0)) ∧ X.heap[sb]? = some (.cells #[.string ⟨nx.toArray⟩, .bool true, .bool true, .bool false] 107 (0, 0))) W10a := ⟨rc10.block (a := W9b.drew) beW9b (by decide), rc10.block (a := W9b.drew) bsW9b (by decide)⟩
    replace rc10 : Bk base W9b W10a := (Bk.of_keeps ((Keeps.refl (fun _ => False) W9b).drew) hBW9b.base).trans rc10
    have CA10 := appUint_any an (by omega) W10a base v10a _ rb10 (HG.out _ (bkW9b.trans rc10)) (by simp only [List.length_append, List.length_cons, List.length_nil]; omega)
    clear ra10
    refine wp_held_end (S := (fun X : World => X.heap[eB]? = some (.cells EC 44 (0, 0)) ∧ X.heap[sb]? = some (.cells #[.string ⟨nx.toArray⟩, .bool true, .bool true, .bool false] 107 (0, 0)))) 7 rfl hmx2 ?_
    simp only [Array.replicate_succ, Array.replicate_zero, List.push_toArray, List.nil_append, List.cons_append]
    refine held_take (i := 0) (v := v9b) 25 rfl rfl (by kernel_rfl) (by kernel_rfl) (by kernel_rfl) rfl (fun w' hw' => by go_simp) Sd10 ?_
    simp only [Act.put, List.setIfInBounds_toArray, List.set_cons_zero, List.set_cons_succ]
    refine held_take (i := 3) (v := .pointer (some ⟨eB, 2, none⟩)) 28 rfl rfl (by kernel_rfl) (by kernel_rfl) (by kernel_rfl) rfl (fun w' hw' => by go_simp) Sd10 ?_
    simp only [Act.put, List.setIfInBounds_toArray, List.set_cons_zero, List.set_cons_succ]
    refine held_take (i := 4) (v := .int .u64 (an : Int)) 29 rfl rfl (by kernel_rfl) (by kernel_rfl) (by kernel_rfl) rfl (fun w' hw' => by have cc : w'.cell? ⟨eB, 2, none⟩ = some (.int .u64 (an : Int)) := (by rw [cell_of_block hw'.1, HEC.out]; rfl); clear hw'; go_simp) Sd10 ?_
    simp only [Act.put, List.setIfInBounds_toArray, List.set_cons_zero, List.set_cons_succ]
    refine held_val (i := 1) (v := .slice (some ⟨W9b.heap.size, 0, none⟩) 1 1) (w' := W9b.drew.alloc (.cells #[.int .u8 32] 5)) (some 26) (by kernel_rfl) rfl rfl rfl (by go_simp) Se10 ?_
    simp only [Act.put, List.setIfInBounds_toArray, List.set_cons_zero, List.set_cons_succ]
    refine held_val (i := 2) (v := v10a) (w' := W10a) (some 27) (by kernel_rfl) rfl rfl rfl (run_append_op2 rfl rfl rfl HA10.out) Sf10 ?_
    simp only [Act.put, List.setIfInBounds_toArray, List.set_cons_zero, List.set_cons_succ]
    refine held_call (i := 5) (f := 63) (args := #[v10a, .int .u64 (an : Int), .int .i64 10]) 30 (by kernel_rfl) rfl rfl rfl (by go_simp) ?_
    refine CA10.mono ?_
    rintro ex W10b ⟨v10b, rfl, sc10, sd10⟩
    have Sg10 : (fun X : World => X.heap[eB]? = some (.cells EC 44 (0, 0)) ∧ X.heap[sb]? = some (.cells #[.string ⟨nx.toArray⟩, .bool true, .bool true, .bool false] 107 (0, 0))) W10b := ⟨sd10.block Sf10.1 (by decide), sd10.block Sf10.2 (by decide)⟩
    refine ⟨_, rfl, Sg10, ?_⟩
    simp only [Act.put, List.setIfInBounds_toArray, List.set_cons_zero, List.set_cons_succ]
    refine held_val (i := 6) (v := v10b) (w' := W10b) (some 0) (by kernel_rfl) rfl rfl rfl (by go_simp) Sg10 ?_
    simp only [Act.put, List.setIfInBounds_toArray, List.set_cons_zero, List.set_cons_succ]
    refine held_end (by kernel_rfl) ?_ _
    have hBW10b : Bts W10b base v10b _ := sc10
    have beW10b := Sg10.1
    have bsW10b := Sg10.2
    have bkW10b := (bkW9b.trans rc10).trans sd10
    have y0W10b : W10b.cell? ⟨sb, 1, none⟩ = some (.bool true) := by rw [cell_of_block bsW10b]; rfl
    have y1W10b : W10b.cell? ⟨sb, 2, none⟩ = some (.bool true) := by rw [cell_of_block bsW10b]; rfl
    have y2W10b : W10b.cell? ⟨sb, 3, none⟩ = some (.bool false) := by rw [cell_of_block bsW10b]; rfl
    clear Sd10 Se10 Sf10 Sg10 HA10 rb10 rc10 sc10 sd10 hBW9b beW9b bsW9b bkW9b y0W9b y1W9b y2W9b CA10
    go_wp2_with fail
    obtain ⟨v11a, W11a, ra11, rb11, rc11⟩ := (hBW10b.drew).blank 32 32 rfl (by simp only [List.length_append, List.length_cons, List.length_nil]; omega)
    have HA11 : Hid ((Builtin.append_ #[79, 79] 79 #[v10b, .slice (some ⟨W10b.heap.size, 0, none⟩) 1 1]).run Tryd.prog (W10b.drew.alloc (.cells #[.int .u8 32] 5)) = .ok v11a W11a) := ra11
    have Sd11 : (fun X : World => X.heap[eB]? = some (.cells EC 44 (0, 0)) ∧ X.heap[sb]? = some (.cells #[.string ⟨nx.toArray⟩, .bool true, .bool true, .bool false] 107 (0, 0))) W10b.drew := ⟨beW10b, bsW10b⟩
    have Se11 : (fun X : World => X.heap[eB]? = some (.cells EC 44 (0, 0)) ∧ X.heap[sb]? = some (.cells #[.string ⟨nx.toArray⟩, .bool true, .bool true, .bool false] 107 (0, 0))) (W10b.drew.alloc (.cells #[.int .u8 32] 5)) := ⟨(Below.heap_alloc _ _ _ (lt_of_block beW10b)).trans beW10b, (Below.heap_alloc _ _ _ (lt_of_block bsW10b)).trans bsW10b⟩
    have Sf11 : (fun X : World => X.heap[eB]? = some (.cells EC 44 (0, 0)) ∧ X.heap[sb]? = some (.cells #[.string ⟨nx.toArray⟩, .bool true, .bool true, .bool false] 107 (0, 0))) W11a := ⟨rc11.block (a := W10b.drew) beW10b (by decide), rc11.block (a := W10b.drew) bsW10b (by decide)⟩
    replace rc11 : Bk base W10b W11a := (Bk.of_keeps ((Keeps.refl (fun _ => False) W10b).drew) hBW10b.base).trans rc11
    have CA11 := appUint_any wn (by omega) W11a base v11a _ rb11 (HG.out _ (bkW10b.trans rc11)) (by simp only [List.length_append, List.length_cons, List.length_nil]; omega)
    clear ra11
    refine wp_held_end (S := (fun X : World => X.heap[eB]? = some (.cells EC 44 (0, 0)) ∧ X.heap[sb]? = some (.cells #[.string ⟨nx.toArray⟩, .bool true, .bool true, .bool false] 107 (0, 0)))) 7 rfl hmx2 ?_
    simp only [Array.replicate_succ, Array.replicate_zero, List.push_toArray, List.nil_append, List.cons_append]
    refine held_take (i := 0) (v := v10b) 33 rfl rfl (by kernel_rfl) (by kernel_rfl) (by kernel_rfl) rfl (fun w' hw' => by go_simp) Sd11 ?_
    simp only [Act.put, List.setIfInBounds_toArray, List.set_cons_zero, List.set_cons_succ]
    refine held_take (i := 3) (v := .pointer (some ⟨eB, 3, none⟩)) 36 rfl rfl (by kernel_rfl) (by kernel_rfl) (by kernel_rfl) rfl (fun w' hw' => by go_simp) Sd11 ?_
    simp only [Act.put, List.setIfInBounds_toArray, List.set_cons_zero, List.set_cons_succ]
    refine held_take (i := 4) (v := .int .u64 (wn : Int)) 37 rfl rfl (by kernel_rfl) (by kernel_rfl) (by kernel_rfl) rfl (fun w' hw' => by have cc : w'.cell? ⟨eB, 3, none⟩ = some (.int .u64 (wn : Int)) := (by rw [cell_of_block hw'.1, HEC.out]; rfl); clear hw'; go_simp) Sd11 ?_
    simp only [Act.put, List.setIfInBounds_toArray, List.set_cons_zero, List.set_cons_succ]
    refine held_val (i := 1) (v := .slice (some ⟨W10b.heap.size, 0, none⟩) 1 1) (w' := W10b.drew.alloc (.cells #[.int .u8 32] 5)) (some 34) (by kernel_rfl) rfl rfl rfl (by go_simp) Se11 ?_
    simp only [Act.put, List.setIfInBounds_toArray, List.set_cons_zero, List.set_cons_succ]
    refine held_val (i := 2) (v := v11a) (w' := W11a) (some 35) (by kernel_rfl) rfl rfl rfl (run_append_op2 rfl rfl rfl HA11.out) Sf11 ?_
    simp only [Act.put, List.setIfInBounds_toArray, List.set_cons_zero, List.set_cons_succ]
    refine held_call (i := 5) (f := 63) (args := #[v11a, .int .u64 (wn : Int), .int .i64 10]) 38 (by kernel_rfl) rfl rfl rfl (by go_simp) ?_
    refine CA11.mono ?_
    rintro ex W11b ⟨v11b, rfl, sc11, sd11⟩
    have Sg11 : (fun X : World => X.heap[eB]? = some (.cells EC 44 (0, 0)) ∧ X.heap[sb]? = some (.cells #[.string ⟨nx.toArray⟩, .bool true, .bool true, .bool false] 107 (0, 0))) W11b := ⟨sd11.block Sf11.1 (by decide), sd11.block Sf11.2 (by decide)⟩
    refine ⟨_, rfl, Sg11, ?_⟩
    simp only [Act.put, List.setIfInBounds_toArray, List.set_cons_zero, List.set_cons_succ]
    refine held_val (i := 6) (v := v11b) (w' := W11b) (some 0) (by kernel_rfl) rfl rfl rfl (by go_simp) Sg11 ?_
    simp only [Act.put, List.setIfInBounds_toArray, List.set_cons_zero, List.set_cons_succ]
    refine held_end (by kernel_rfl) ?_ _
    have hBW11b : Bts W11b base v11b _ := sc11
    have beW11b := Sg11.1
    have bsW11b := Sg11.2
    have bkW11b := (bkW10b.trans rc11).trans sd11
    have y0W11b : W11b.cell? ⟨sb, 1, none⟩ = some (.bool true) := by rw [cell_of_block bsW11b]; rfl
    have y1W11b : W11b.cell? ⟨sb, 2, none⟩ = some (.bool true) := by rw [cell_of_block bsW11b]; rfl
    have y2W11b : W11b.cell? ⟨sb, 3, none⟩ = some (.bool false) := by rw [cell_of_block bsW11b]; rfl
    clear Sd11 Se11 Sf11 Sg11 HA11 rb11 rc11 sc11 sd11 hBW10b beW10b bsW10b bkW10b y0W10b y1W10b y2W10b CA11
    go_wp2_with fail
    go_ret
    refine ⟨_, rfl, ?_, bkW11b⟩
    have := hBW11b
    simpa [blankN] using this
end Go.Proofs.YtjaldfmdjnkoeaaDoor
