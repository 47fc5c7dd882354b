
/- The document's record of a search, as it lies (layer 22). No statement of the seat is proved here. -/
import Derived.Test.YtjgibkofenkehaaSkJ
namespace Go.Proofs.Ytjgibkofenkehaa
open Go.RowKit

def wv (l : List Int) : List Value := l.map fun x => .int .u64 x
/-- The record: the cells, the links, the last word, how many words. -/
def rcs (cl tl : List Int) (wd n : Int) : Array Value := (wv cl ++ wv tl ++ [Value.int .u64 wd, Value.int .i64 n]).toArray
def recO (cl tl : List Int) (wd n : Int) : Obj := .cells (rcs cl tl wd n) 109 (0, 0)
def z8 : List Int := List.replicate 8 0
theorem eightI {l : List Int} (h : l.length = 8) : ∃ a b c d e f g i, l = [a, b, c, d, e, f, g, i] := by
  match l, h with
  | [a, b, c, d, e, f, g, i], _ => exact ⟨a, b, c, d, e, f, g, i, rfl⟩
theorem rcs_size {cl tl : List Int} (hc : cl.length = 8) (ht : tl.length = 8) (wd n : Int) : (rcs cl tl wd n).size = 18 := by
  simp [rcs, wv, hc, ht]
theorem rcs_one (cl tl : List Int) (wd n : Int) : (rcs cl tl wd n).all (·.oneCell') = true := by
  refine Array.all_eq_true_iff_forall_mem.2 fun v hv => ?_
  simp [rcs, wv] at hv
  rcases hv with ⟨x, _, rfl⟩ | ⟨x, _, rfl⟩ | rfl | rfl <;> rfl
theorem rcs_cell {cl tl : List Int} (hc : cl.length = 8) (ht : tl.length = 8) (wd n : Int) {i : Nat} (hi : i < 8) : (rcs cl tl wd n)[i]? = some (.int .u64 (oat cl i)) ∧ (rcs cl tl wd n)[8 + i]? = some (.int .u64 (oat tl i)) := by
  obtain ⟨a, b, c, d, e, f, g, j, rfl⟩ := eightI hc
  obtain ⟨a', b', c', d', e', f', g', j', rfl⟩ := eightI ht
  match i, hi with
  | 0, _ => exact ⟨rfl, rfl⟩
  | 1, _ => exact ⟨rfl, rfl⟩
  | 2, _ => exact ⟨rfl, rfl⟩
  | 3, _ => exact ⟨rfl, rfl⟩
  | 4, _ => exact ⟨rfl, rfl⟩
  | 5, _ => exact ⟨rfl, rfl⟩
  | 6, _ => exact ⟨rfl, rfl⟩
  | 7, _ => exact ⟨rfl, rfl⟩
theorem rcs_last {cl tl : List Int} (hc : cl.length = 8) (ht : tl.length = 8) (wd n : Int) : (rcs cl tl wd n)[16]? = some (.int .u64 wd) ∧ (rcs cl tl wd n)[17]? = some (.int .i64 n) := by
  obtain ⟨a, b, c, d, e, f, g, j, rfl⟩ := eightI hc
  obtain ⟨a', b', c', d', e', f', g', j', rfl⟩ := eightI ht
  exact ⟨rfl, rfl⟩
theorem rcs_setC {cl tl : List Int} (hc : cl.length = 8) (ht : tl.length = 8) (wd n : Int) {i : Nat} (hi : i < 8) (x : Int) : (rcs cl tl wd n).setIfInBounds i (.int .u64 x) = rcs (cl.set i x) tl wd n := by
  obtain ⟨a, b, c, d, e, f, g, j, rfl⟩ := eightI hc
  obtain ⟨a', b', c', d', e', f', g', j', rfl⟩ := eightI ht
  match i, hi with
  | 0, _ => rfl
  | 1, _ => rfl
  | 2, _ => rfl
  | 3, _ => rfl
  | 4, _ => rfl
  | 5, _ => rfl
  | 6, _ => rfl
  | 7, _ => rfl
theorem rcs_setT {cl tl : List Int} (hc : cl.length = 8) (ht : tl.length = 8) (wd n : Int) {i : Nat} (hi : i < 8) (x : Int) : (rcs cl tl wd n).setIfInBounds (8 + i) (.int .u64 x) = rcs cl (tl.set i x) wd n := by
  obtain ⟨a, b, c, d, e, f, g, j, rfl⟩ := eightI hc
  obtain ⟨a', b', c', d', e', f', g', j', rfl⟩ := eightI ht
  match i, hi with
  | 0, _ => rfl
  | 1, _ => rfl
  | 2, _ => rfl
  | 3, _ => rfl
  | 4, _ => rfl
  | 5, _ => rfl
  | 6, _ => rfl
  | 7, _ => rfl
theorem rcs_setW {cl tl : List Int} (hc : cl.length = 8) (ht : tl.length = 8) (wd n : Int) (x : Int) : (rcs cl tl wd n).setIfInBounds 16 (.int .u64 x) = rcs cl tl x n := by
  obtain ⟨a, b, c, d, e, f, g, j, rfl⟩ := eightI hc
  obtain ⟨a', b', c', d', e', f', g', j', rfl⟩ := eightI ht
  rfl
theorem rcs_setN {cl tl : List Int} (hc : cl.length = 8) (ht : tl.length = 8) (wd n : Int) (x : Int) : (rcs cl tl wd n).setIfInBounds 17 (.int .i64 x) = rcs cl tl wd x := by
  obtain ⟨a, b, c, d, e, f, g, j, rfl⟩ := eightI hc
  obtain ⟨a', b', c', d', e', f', g', j', rfl⟩ := eightI ht
  rfl
theorem size_sea : (Try.prog.info? 109).map (·.size) = some 18 := by kernel_rfl
section
variable {w : World} {b g q : Nat} {cl tl : List Int} {wd n : Int}
theorem rec_c (h : w.heap[q]? = some (recO cl tl wd n)) (hc : cl.length = 8) (ht : tl.length = 8) {i : Nat} (hi : i < 8) : w.cell? ⟨q, i, none⟩ = some (.int .u64 (oat cl i)) := by rw [cell_of_block h]; exact (rcs_cell hc ht wd n hi).1
theorem rec_t (h : w.heap[q]? = some (recO cl tl wd n)) (hc : cl.length = 8) (ht : tl.length = 8) {i : Nat} (hi : i < 8) : w.cell? ⟨q, 8 + i, none⟩ = some (.int .u64 (oat tl i)) := by rw [cell_of_block h]; exact (rcs_cell hc ht wd n hi).2
theorem rec_w (h : w.heap[q]? = some (recO cl tl wd n)) (hc : cl.length = 8) (ht : tl.length = 8) : w.cell? ⟨q, 16, none⟩ = some (.int .u64 wd) := by rw [cell_of_block h]; exact (rcs_last hc ht wd n).1
theorem rec_n (h : w.heap[q]? = some (recO cl tl wd n)) (hc : cl.length = 8) (ht : tl.length = 8) : w.cell? ⟨q, 17, none⟩ = some (.int .i64 n) := by rw [cell_of_block h]; exact (rcs_last hc ht wd n).2
theorem rec_fr (h : w.heap[q]? = some (recO cl tl wd n)) (i : Nat) : w.frozen? ⟨q, i, none⟩ = false := frozen_of_block h i
theorem Lo.recC (h : Lo w b g q (recO cl tl wd n)) (hc : cl.length = 8) (ht : tl.length = 8) {i : Nat} (hi : i < 8) (x : Int) : Lo (w.setCell ⟨q, i, none⟩ (.int .u64 x)) b g q (recO (cl.set i x) tl wd n) := by
  have q1 := h.set i (.int .u64 x)
  rw [rcs_setC hc ht wd n hi x] at q1
  exact q1
theorem Lo.recT (h : Lo w b g q (recO cl tl wd n)) (hc : cl.length = 8) (ht : tl.length = 8) {i : Nat} (hi : i < 8) (x : Int) : Lo (w.setCell ⟨q, 8 + i, none⟩ (.int .u64 x)) b g q (recO cl (tl.set i x) wd n) := by
  have q1 := h.set (8 + i) (.int .u64 x)
  rw [rcs_setT hc ht wd n hi x] at q1
  exact q1
theorem Lo.recW (h : Lo w b g q (recO cl tl wd n)) (hc : cl.length = 8) (ht : tl.length = 8) (x : Int) : Lo (w.setCell ⟨q, 16, none⟩ (.int .u64 x)) b g q (recO cl tl x n) := by
  have q1 := h.set 16 (.int .u64 x)
  rw [rcs_setW hc ht wd n x] at q1
  exact q1
theorem Lo.recN (h : Lo w b g q (recO cl tl wd n)) (hc : cl.length = 8) (ht : tl.length = 8) (x : Int) : Lo (w.setCell ⟨q, 17, none⟩ (.int .i64 x)) b g q (recO cl tl wd x) := by
  have q1 := h.set 17 (.int .i64 x)
  rw [rcs_setN hc ht wd n x] at q1
  exact q1
end
theorem rec_ret {fn : Func} {p u : Tmp} (h : fn.results = #[.cell p 109, .tmp u]) (tmps : Array Value) (w : World) (q : Nat) {cl tl : List Int} {wd n : Int} (hc : cl.length = 8) (ht : tl.length = 8) (hb : w.heap[q]? = some (recO cl tl wd n))
    (hp : tmps.getD p undef = .pointer (some ⟨q, 0, none⟩)) : (results fn tmps).run Try.prog w = .ok (.tuple #[.agg (rcs cl tl wd n), tmps.getD u undef]) w := by
  rw [results_ct h, hp]
  simp [asAddr, run_loadVar_row w q 109 109 _ (0, 0) _ hb Try.underlying109 rfl (by rw [size_sea, rcs_size hc ht]), Result.andThen]
def measR (w : World) (q : Nat) : Nat := match w.heap[q]? with
  | some (.cells cs _ _) => (match cs[17]? with
    | some (Value.int _ n) => (65537 - n).toNat
    | _ => 0)
  | _ => 0
theorem measR_of {w : World} {q : Nat} {cl tl : List Int} {wd n : Int} (h : w.heap[q]? = some (recO cl tl wd n)) (hc : cl.length = 8) (ht : tl.length = 8) : measR w q = (65537 - n).toNat := by
  unfold measR
  rw [h]
  show (match (rcs cl tl wd n)[17]? with | some (Value.int _ n) => (65537 - n).toNat | _ => 0) = _
  rw [(rcs_last hc ht wd n).2]
def cL (la : List Lk) : List Int := la.map Lk.c
def tL (la : List Lk) : List Int := la.map Lk.t
theorem cL_set (la : List Lk) (i : Nat) (l : Lk) : cL (la.set i l) = (cL la).set i l.c := by unfold cL; rw [List.map_set]
theorem tL_set (la : List Lk) (i : Nat) (l : Lk) : tL (la.set i l) = (tL la).set i l.t := by unfold tL; rw [List.map_set]
theorem oat_cL {la : List Lk} (h : la.length = 8) {i : Nat} (hi : i < 8) : oat (cL la) i = (lk la i).c := by
  unfold oat cL lk
  rw [List.getElem?_map, List.getElem?_eq_getElem (by omega)]
  rfl
theorem oat_tL {la : List Lk} (h : la.length = 8) {i : Nat} (hi : i < 8) : oat (tL la) i = (lk la i).t := by
  unfold oat tL lk
  rw [List.getElem?_map, List.getElem?_eq_getElem (by omega)]
  rfl
/-- What a search of the document's answers: the record, right where no error is told. -/
structure SeOk (la : List Lk) (e : Int) (cl tl : List Int) (wd : Int) : Prop where
  c8 : cl.length = 8
  t8 : tl.length = 8
  cl : e = 0 → cl = cL la
  tl : e = 0 → tl = tL la
  wd : e = 0 → (lk la 0).t ≠ 0 → wd = (lk la 0).k
/-- What stands where the document's search goes on. -/
structure Rr (w : World) (b g c : Nat) (p : Int → Bool) (at_ : Int) (s : Wd) (X : World) (lv f : Nat) (la : List Lk) (base : Int) (n : Nat) (s' : Wd) (wd : Int) : Prop where
  hs : Hs 30 w b g c X s'
  l8 : Lo X b g w.heap.size (recO z8 z8 0 0)
  l10 : Lo X b g (w.heap.size + 1) (recO (cL la) (tL la) wd (n : Int))
  eq : s.search p at_ = sr p (f + 1) la base lv n s'
  fu : 65536 + lv + 1 ≤ f + n
  rm : Rm s' (2 * (f + 1))
  bw : isW base
  nl : n ≤ 65536
  lv8 : lv < 8
  n8 : la.length = 8
/-- How a link is followed, case by case. -/
theorem fol_e1 {s s1 : Wd} {n : Nat} {a x e : Int} (h : s.get a = ((x, e), s1)) (he : e ≠ 0) : s.fol n a = ((Lk.zero, e), n, s1) := by unfold Wd.fol; rw [h]; dsimp only; rw [if_pos he]
theorem fol_z {s s1 : Wd} {n : Nat} {a : Int} (h : s.get a = ((0, 0), s1)) : s.fol n a = ((⟨a, 0, 0⟩, 0), n, s1) := by unfold Wd.fol; rw [h]; simp
theorem fol_full {s s1 : Wd} {a x : Int} (h : s.get a = ((x, 0), s1)) (hx : x ≠ 0) : s.fol 65536 a = ((Lk.zero, 320), 65536, s1) := by unfold Wd.fol; rw [h]; simp [hx]
theorem fol_e2 {s s1 s2 : Wd} {n : Nat} {a x k f : Int} (h : s.get a = ((x, 0), s1)) (hx : x ≠ 0) (hn : n ≠ 65536) (h2 : s1.get (uw (x - 1)) = ((k, f), s2)) (hf : f ≠ 0) : s.fol n a = ((Lk.zero, f), n + 1, s2) := by unfold Wd.fol; rw [h]; simp [hx, hn, h2, hf]
theorem fol_y {s s1 s2 : Wd} {n : Nat} {a x k : Int} (h : s.get a = ((x, 0), s1)) (hx : x ≠ 0) (hn : n ≠ 65536) (h2 : s1.get (uw (x - 1)) = ((k, 0), s2)) : s.fol n a = ((⟨a, x, k⟩, 0), n + 1, s2) := by unfold Wd.fol; rw [h]; simp [hx, hn, h2]
end Go.Proofs.Ytjgibkofenkehaa
