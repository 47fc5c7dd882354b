/-
  No statement of the seat is proved here. (Several texts in one: SrB0, SrB.)
-/
import Derived.Test.YtjgibkofenkehaaSkJ

/- The document's record of a search, as it lies (layer 22). No statement of the seat is proved here. -/
namespace Go.Proofs.Ytjgibkofenkehaa
open Go.RowKit

def wv (l : List Int) : List Value := l.map fun x => .int .u64 x
/-- The record: the cells, the links, the last word, how many words. -/
def rcs (cl tl : List Int) (wd n : Int) : Array Value := (wv cl ++ wv tl ++ [Value.int .u64 wd, Value.int .i64 n]).toArray
def recO (cl tl : List Int) (wd n : Int) : Obj := .cells (rcs cl tl wd n) 109 (0, 0)
def z8 : List Int := List.replicate 8 0
theorem eightI {l : List Int} (h : l.length = 8) : ∃ a b c d e f g i, l = [a, b, c, d, e, f, g, i] := by
  match l, h with
  | [a, b, c, d, e, f, g, i], _ => exact ⟨a, b, c, d, e, f, g, i, rfl⟩
theorem rcs_size {cl tl : List Int} (hc : cl.length = 8) (ht : tl.length = 8) (wd n : Int) : (rcs cl tl wd n).size = 18 := by
  simp [rcs, wv, hc, ht]
theorem rcs_one (cl tl : List Int) (wd n : Int) : (rcs cl tl wd n).all (·.oneCell') = true := by
  refine Array.all_eq_true_iff_forall_mem.2 fun v hv => ?_
  simp [rcs, wv] at hv
  rcases hv with ⟨x, _, rfl⟩ | ⟨x, _, rfl⟩ | rfl | rfl <;> rfl
theorem rcs_cell {cl tl : List Int} (hc : cl.length = 8) (ht : tl.length = 8) (wd n : Int) {i : Nat} (hi : i < 8) : (rcs cl tl wd n)[i]? = some (.int .u64 (oat cl i)) ∧ (rcs cl tl wd n)[8 + i]? = some (.int .u64 (oat tl i)) := by
  obtain ⟨a, b, c, d, e, f, g, j, rfl⟩ := eightI hc
  obtain ⟨a', b', c', d', e', f', g', j', rfl⟩ := eightI ht
  match i, hi with
  | 0, _ => exact ⟨rfl, rfl⟩
  | 1, _ => exact ⟨rfl, rfl⟩
  | 2, _ => exact ⟨rfl, rfl⟩
  | 3, _ => exact ⟨rfl, rfl⟩
  | 4, _ => exact ⟨rfl, rfl⟩
  | 5, _ => exact ⟨rfl, rfl⟩
  | 6, _ => exact ⟨rfl, rfl⟩
  | 7, _ => exact ⟨rfl, rfl⟩
theorem rcs_last {cl tl : List Int} (hc : cl.length = 8) (ht : tl.length = 8) (wd n : Int) : (rcs cl tl wd n)[16]? = some (.int .u64 wd) ∧ (rcs cl tl wd n)[17]? = some (.int .i64 n) := by
  obtain ⟨a, b, c, d, e, f, g, j, rfl⟩ := eightI hc
  obtain ⟨a', b', c', d', e', f', g', j', rfl⟩ := eightI ht
  exact ⟨rfl, rfl⟩
theorem rcs_setC {cl tl : List Int} (hc : cl.length = 8) (ht : tl.length = 8) (wd n : Int) {i : Nat} (hi : i < 8) (x : Int) : (rcs cl tl wd n).setIfInBounds i (.int .u64 x) = rcs (cl.set i x) tl wd n := by
  obtain ⟨a, b, c, d, e, f, g, j, rfl⟩ := eightI hc
  obtain ⟨a', b', c', d', e', f', g', j', rfl⟩ := eightI ht
  match i, hi with
  | 0, _ => rfl
  | 1, _ => rfl
  | 2, _ => rfl
  | 3, _ => rfl
  | 4, _ => rfl
  | 5, _ => rfl
  | 6, _ => rfl
  | 7, _ => rfl
theorem rcs_setT {cl tl : List Int} (hc : cl.length = 8) (ht : tl.length = 8) (wd n : Int) {i : Nat} (hi : i < 8) (x : Int) : (rcs cl tl wd n).setIfInBounds (8 + i) (.int .u64 x) = rcs cl (tl.set i x) wd n := by
  obtain ⟨a, b, c, d, e, f, g, j, rfl⟩ := eightI hc
  obtain ⟨a', b', c', d', e', f', g', j', rfl⟩ := eightI ht
  match i, hi with
  | 0, _ => rfl
  | 1, _ => rfl
  | 2, _ => rfl
  | 3, _ => rfl
  | 4, _ => rfl
  | 5, _ => rfl
  | 6, _ => rfl
  | 7, _ => rfl
theorem rcs_setW {cl tl : List Int} (hc : cl.length = 8) (ht : tl.length = 8) (wd n : Int) (x : Int) : (rcs cl tl wd n).setIfInBounds 16 (.int .u64 x) = rcs cl tl x n := by
  obtain ⟨a, b, c, d, e, f, g, j, rfl⟩ := eightI hc
  obtain ⟨a', b', c', d', e', f', g', j', rfl⟩ := eightI ht
  rfl
theorem rcs_setN {cl tl : List Int} (hc : cl.length = 8) (ht : tl.length = 8) (wd n : Int) (x : Int) : (rcs cl tl wd n).setIfInBounds 17 (.int .i64 x) = rcs cl tl wd x := by
  obtain ⟨a, b, c, d, e, f, g, j, rfl⟩ := eightI hc
  obtain ⟨a', b', c', d', e', f', g', j', rfl⟩ := eightI ht
  rfl
theorem size_sea : (Try.prog.info? 109).map (·.size) = some 18 := by kernel_rfl
section
variable {w : World} {b g q : Nat} {cl tl : List Int} {wd n : Int}
theorem rec_c (h : w.heap[q]? = some (recO cl tl wd n)) (hc : cl.length = 8) (ht : tl.length = 8) {i : Nat} (hi : i < 8) : w.cell? ⟨q, i, none⟩ = some (.int .u64 (oat cl i)) := by rw [cell_of_block h]; exact (rcs_cell hc ht wd n hi).1
theorem rec_t (h : w.heap[q]? = some (recO cl tl wd n)) (hc : cl.length = 8) (ht : tl.length = 8) {i : Nat} (hi : i < 8) : w.cell? ⟨q, 8 + i, none⟩ = some (.int .u64 (oat tl i)) := by rw [cell_of_block h]; exact (rcs_cell hc ht wd n hi).2
theorem rec_w (h : w.heap[q]? = some (recO cl tl wd n)) (hc : cl.length = 8) (ht : tl.length = 8) : w.cell? ⟨q, 16, none⟩ = some (.int .u64 wd) := by rw [cell_of_block h]; exact (rcs_last hc ht wd n).1
theorem rec_n (h : w.heap[q]? = some (recO cl tl wd n)) (hc : cl.length = 8) (ht : tl.length = 8) : w.cell? ⟨q, 17, none⟩ = some (.int .i64 n) := by rw [cell_of_block h]; exact (rcs_last hc ht wd n).2
theorem rec_fr (h : w.heap[q]? = some (recO cl tl wd n)) (i : Nat) : w.frozen? ⟨q, i, none⟩ = false := frozen_of_block h i
theorem Lo.recC (h : Lo w b g q (recO cl tl wd n)) (hc : cl.length = 8) (ht : tl.length = 8) {i : Nat} (hi : i < 8) (x : Int) : Lo (w.setCell ⟨q, i, none⟩ (.int .u64 x)) b g q (recO (cl.set i x) tl wd n) := by
  have q1 := h.set i (.int .u64 x)
  rw [rcs_setC hc ht wd n hi x] at q1
  exact q1
theorem Lo.recT (h : Lo w b g q (recO cl tl wd n)) (hc : cl.length = 8) (ht : tl.length = 8) {i : Nat} (hi : i < 8) (x : Int) : Lo (w.setCell ⟨q, 8 + i, none⟩ (.int .u64 x)) b g q (recO cl (tl.set i x) wd n) := by
  have q1 := h.set (8 + i) (.int .u64 x)
  rw [rcs_setT hc ht wd n hi x] at q1
  exact q1
theorem Lo.recW (h : Lo w b g q (recO cl tl wd n)) (hc : cl.length = 8) (ht : tl.length = 8) (x : Int) : Lo (w.setCell ⟨q, 16, none⟩ (.int .u64 x)) b g q (recO cl tl x n) := by
  have q1 := h.set 16 (.int .u64 x)
  rw [rcs_setW hc ht wd n x] at q1
  exact q1
theorem Lo.recN (h : Lo w b g q (recO cl tl wd n)) (hc : cl.length = 8) (ht : tl.length = 8) (x : Int) : Lo (w.setCell ⟨q, 17, none⟩ (.int .i64 x)) b g q (recO cl tl wd x) := by
  have q1 := h.set 17 (.int .i64 x)
  rw [rcs_setN hc ht wd n x] at q1
  exact q1
end
theorem rec_ret {fn : Func} {p u : Tmp} (h : fn.results = #[.cell p 109, .tmp u]) (tmps : Array Value) (w : World) (q : Nat) {cl tl : List Int} {wd n : Int} (hc : cl.length = 8) (ht : tl.length = 8) (hb : w.heap[q]? = some (recO cl tl wd n))
    (hp : tmps.getD p undef = .pointer (some ⟨q, 0, none⟩)) : (results fn tmps).run Try.prog w = .ok (.tuple #[.agg (rcs cl tl wd n), tmps.getD u undef]) w := by
  rw [results_ct h, hp]
  simp [asAddr, run_loadVar_row w q 109 109 _ (0, 0) _ hb Try.underlying109 rfl (by rw [size_sea, rcs_size hc ht]), Result.andThen]
def measR (w : World) (q : Nat) : Nat := match w.heap[q]? with
  | some (.cells cs _ _) => (match cs[17]? with
    | some (Value.int _ n) => (65537 - n).toNat
    | _ => 0)
  | _ => 0
theorem measR_of {w : World} {q : Nat} {cl tl : List Int} {wd n : Int} (h : w.heap[q]? = some (recO cl tl wd n)) (hc : cl.length = 8) (ht : tl.length = 8) : measR w q = (65537 - n).toNat := by
  unfold measR
  rw [h]
  show (match (rcs cl tl wd n)[17]? with | some (Value.int _ n) => (65537 - n).toNat | _ => 0) = _
  rw [(rcs_last hc ht wd n).2]
def cL (la : List Lk) : List Int := la.map Lk.c
def tL (la : List Lk) : List Int := la.map Lk.t
theorem cL_set (la : List Lk) (i : Nat) (l : Lk) : cL (la.set i l) = (cL la).set i l.c := by unfold cL; rw [List.map_set]
theorem tL_set (la : List Lk) (i : Nat) (l : Lk) : tL (la.set i l) = (tL la).set i l.t := by unfold tL; rw [List.map_set]
theorem oat_cL {la : List Lk} (h : la.length = 8) {i : Nat} (hi : i < 8) : oat (cL la) i = (lk la i).c := by
  unfold oat cL lk
  rw [List.getElem?_map, List.getElem?_eq_getElem (by omega)]
  rfl
theorem oat_tL {la : List Lk} (h : la.length = 8) {i : Nat} (hi : i < 8) : oat (tL la) i = (lk la i).t := by
  unfold oat tL lk
  rw [List.getElem?_map, List.getElem?_eq_getElem (by omega)]
  rfl
/-- What a search of the document's answers: the record, right where no error is told. -/
structure SeOk (la : List Lk) (e : Int) (cl tl : List Int) (wd : Int) : Prop where
  c8 : cl.length = 8
  t8 : tl.length = 8
  cl : e = 0 → cl = cL la
  tl : e = 0 → tl = tL la
  wd : e = 0 → (lk la 0).t ≠ 0 → wd = (lk la 0).k
/-- What stands where the document's search goes on. -/
structure Rr (w : World) (b g c : Nat) (p : Int → Bool) (at_ : Int) (s : Wd) (X : World) (lv f : Nat) (la : List Lk) (base : Int) (n : Nat) (s' : Wd) (wd : Int) : Prop where
  hs : Hs 30 w b g c X s'
  l8 : Lo X b g w.heap.size (recO z8 z8 0 0)
  l10 : Lo X b g (w.heap.size + 1) (recO (cL la) (tL la) wd (n : Int))
  eq : s.search p at_ = sr p (f + 1) la base lv n s'
  fu : 65536 + lv + 1 ≤ f + n
  rm : Rm s' (2 * (f + 1))
  bw : isW base
  nl : n ≤ 65536
  lv8 : lv < 8
  n8 : la.length = 8
/-- How a link is followed, case by case. -/
theorem fol_e1 {s s1 : Wd} {n : Nat} {a x e : Int} (h : s.get a = ((x, e), s1)) (he : e ≠ 0) : s.fol n a = ((Lk.zero, e), n, s1) := by unfold Wd.fol; rw [h]; dsimp only; rw [if_pos he]
theorem fol_z {s s1 : Wd} {n : Nat} {a : Int} (h : s.get a = ((0, 0), s1)) : s.fol n a = ((⟨a, 0, 0⟩, 0), n, s1) := by unfold Wd.fol; rw [h]; simp
theorem fol_full {s s1 : Wd} {a x : Int} (h : s.get a = ((x, 0), s1)) (hx : x ≠ 0) : s.fol 65536 a = ((Lk.zero, 320), 65536, s1) := by unfold Wd.fol; rw [h]; simp [hx]
theorem fol_e2 {s s1 s2 : Wd} {n : Nat} {a x k f : Int} (h : s.get a = ((x, 0), s1)) (hx : x ≠ 0) (hn : n ≠ 65536) (h2 : s1.get (uw (x - 1)) = ((k, f), s2)) (hf : f ≠ 0) : s.fol n a = ((Lk.zero, f), n + 1, s2) := by unfold Wd.fol; rw [h]; simp [hx, hn, h2, hf]
theorem fol_y {s s1 s2 : Wd} {n : Nat} {a x k : Int} (h : s.get a = ((x, 0), s1)) (hx : x ≠ 0) (hn : n ≠ 65536) (h2 : s1.get (uw (x - 1)) = ((k, 0), s2)) : s.fol n a = ((⟨a, x, k⟩, 0), n + 1, s2) := by unfold Wd.fol; rw [h]; simp [hx, hn, h2]
end Go.Proofs.Ytjgibkofenkehaa


/- The walk of the document's search (layer 22). No statement of the seat is proved here. -/
namespace Go.Proofs.Ytjgibkofenkehaa
open Go.RowKit

def pP (past : Bool) (x : Int) : Int → Bool := if past = true then pLe x else pLt x
set_option maxRecDepth 100000 in
set_option maxHeartbeats 4000000 in
theorem rsearch_any (b g c : Nat) (s : Wd) (at_ x : Int) (past : Bool) (hat : isW at_) (rms : Rm s 131090) (w : World) (h : WdAt 30 w b g c s) :
    Calls Try.prog 65 #[.pointer (some ⟨b, 0, none⟩), .int .u64 at_, .int .u64 x, .bool past] w fun e w' => ∃ cl tl wd n, e = .returned (.tuple #[.agg (rcs cl tl wd n), .int .i64 (s.search (pP past x) at_).1.2]) ∧ SeOk (s.search (pP past x) at_).1.1 (s.search (pP past x) at_).1.2 cl tl wd ∧ Hs 30 w b g c w' (s.search (pP past x) at_).2 := by
  have HST : Hid (∀ X, X = (w.alloc (recO z8 z8 0 0)).alloc (recO z8 z8 0 0) → Rr w b g c (pP past x) at_ s X 7 65544 zeros at_ 0 s 0) := by
    intro X hX
    have k2 := keeps_new (w.alloc (recO z8 z8 0 0)) (recO z8 z8 0 0)
    have h1 := (Hs.start h).new (keeps_new w (recO z8 z8 0 0))
    have e1 : (w.alloc (recO z8 z8 0 0)).heap.size = w.heap.size + 1 := by simp
    have l10 := Lo.new h1.wd (recO z8 z8 0 0)
    rw [e1] at l10
    subst hX
    exact ⟨h1.new k2, (Lo.new h _).after h1.wd.ltb k2, l10, rfl, by omega, rms, hat, by omega, by omega, rfl⟩
  clear h rms hat
  go_enter Try.func65, Try.ntmps65
  go_wp2_with fail
  obtain ⟨X0, hX0⟩ : ∃ X, X = (w.alloc (recO z8 z8 0 0)).alloc (recO z8 z8 0 0) := ⟨_, rfl⟩
  have HR0 := hid (HST.out X0 hX0)
  clear HST
  go_loopw [11, 12] (fun bv kv wr => (∃ (lv f : Nat) (la : List Lk) (base : Int) (n : Nat) (s' : Wd) (wd : Int), bv = .int .u64 base ∧ kv = .int .i64 (lv : Int) ∧ Hid (Rr w b g c (pP past x) at_ s wr lv f la base n s' wd)) ∨ ∃ (la : List Lk) (base : Int) (n : Nat) (s' : Wd) (wd : Int), bv = .int .u64 base ∧ kv = .int .i64 (-1) ∧ Hid (s.search (pP past x) at_ = ((la, 0), s') ∧ la.length = 8 ∧ ((lk la 0).t ≠ 0 → wd = (lk la 0).k) ∧ Hs 30 w b g c wr s' ∧ Lo wr b g w.heap.size (recO z8 z8 0 0) ∧ Lo wr b g (w.heap.size + 1) (recO (cL la) (tL la) wd (n : Int)))) (fun _ kv _ => (intOf kv + 1).toNat)
  case atStart => exact .inl ⟨7, 65544, zeros, at_, 0, s, 0, rfl, rfl, by rw [hX0] at HR0; exact HR0⟩
  case round =>
    clear HR0 hX0
    rcases hrel with ⟨lv, f, la, base, n, s', wd, rfl, rfl, HJ⟩ | ⟨la, base, n, s', wd, rfl, rfl, HJ⟩
    · have hlv := HJ.out.lv8
      have hlv0 : (0 : Int) ≤ (lv : Int) := by omega
      have hwlv : IntKind.u64.wrap (lv : Int) = (lv : Int) := by rw [IntKind.wrap_u64]; omega
      have hwlm : IntKind.i64.wrap ((lv : Int) - 1) = (lv : Int) - 1 := by rw [IntKind.wrap_i64]; omega
      go_wp2_with fail
      go_loopw [11] (fun bv wr => ∃ (f : Nat) (la : List Lk) (base : Int) (n : Nat) (s' : Wd) (wd : Int), bv = .int .u64 base ∧ Hid (Rr w b g c (pP past x) at_ s wr lv f la base n s' wd)) (fun _ wr => measR wr (w.heap.size + 1))
      case atStart => exact ⟨f, la, base, n, s', wd, rfl, HJ⟩
      case round =>
        obtain ⟨f, la, base, n, s', wd, rfl, HY⟩ := hrel
        clear HJ
        have hc8 : (cL la).length = 8 := by unfold cL; rw [List.length_map]; exact HY.out.n8
        have ht8 : (tL la).length = 8 := by unfold tL; rw [List.length_map]; exact HY.out.n8
        have hn8 := HY.out.n8
        have q0 := rec_c HY.out.l10.at_ hc8 ht8 hlv
        have qf := rec_fr HY.out.l10.at_
        obtain ⟨a, haa⟩ : ∃ a, uw (base + (lv : Int)) = a := ⟨_, rfl⟩
        have haw : isW a := haa ▸ uw_isW _
        have haa' : IntKind.u64.wrap (base + (lv : Int)) = a := haa
        have hset8 : ((cL la).set lv a).length = 8 := by simpa using hc8
        have HB : Hid (Hs 30 w b g c (wr.setCell ⟨w.heap.size + 1, lv, none⟩ (.int .u64 a)) s' ∧ Lo (wr.setCell ⟨w.heap.size + 1, lv, none⟩ (.int .u64 a)) b g w.heap.size (recO z8 z8 0 0) ∧ Lo (wr.setCell ⟨w.heap.size + 1, lv, none⟩ (.int .u64 a)) b g (w.heap.size + 1) (recO ((cL la).set lv a) (tL la) wd (n : Int))) := hid ⟨HY.out.hs.set HY.out.l10 (by omega) _ _, HY.out.l8.setOther _ HY.out.l10 (by omega), HY.out.l10.recC hc8 ht8 hlv a⟩
        obtain ⟨⟨⟨lx, e⟩, s1⟩, eq1⟩ : ∃ r, s'.get a = r := ⟨_, rfl⟩
        have hwx : isW lx := get_isW eq1 HY.out.hs.wd.ok
        have rms1 : Rm s1 1 := (HY.out.rm.le (by omega) : Rm s' 2).get eq1
        have HE1 : Hid (_ = _) := eq1
        have r0 := rec_c HB.out.2.2.at_ hset8 ht8 hlv
        have hoat : oat ((cL la).set lv a) lv = a := by unfold oat; rw [List.getElem?_set_self (by omega)]; rfl
        rw [hoat] at r0
        clear hoat
        by_cases he : e = 0
        · subst he
          have ht8x : ((tL la).set lv lx).length = 8 := by simpa using ht8
          by_cases hlx : lx = 0
          · subst hlx
            have HFO : Hid (s'.fol n (uw (base + (lv : Int))) = ((⟨a, 0, 0⟩, 0), n, s1)) := by rw [haa]; exact hid (fol_z eq1)
            have HNP : Hid (¬ (((⟨a, 0, 0⟩ : Lk).t) ≠ 0 ∧ pP past x (⟨a, 0, 0⟩ : Lk).k = true)) := hid (fun q => q.1 rfl)
            have HOK : Hid (FolOk s' n ((⟨a, 0, 0⟩, 0), n, s1)) := by
              have q := fol_ok HY.out.hs.wd.ok n (uw_isW (base + (lv : Int)))
              rw [HFO.out] at q
              exact hid q
            clear eq1
            go_wp2_with fail
            refine (wget_r HE1 haw (HY.out.rm.le (by omega)) HB.out.1.wd).mono ?_
            rintro e_ w1 ⟨rfl, h1⟩
            have H1 := hid (And.intro (HB.out.1.trans h1) (And.intro (HB.out.2.1.hs h1) (HB.out.2.2.hs h1)))
            clear HB h1 HE1 q0 qf r0
            have t0 := rec_t H1.out.2.2.at_ hset8 ht8 hlv
            have tf := rec_fr H1.out.2.2.at_
            have H2 : Hid (Hs 30 w b g c (w1.setCell ⟨w.heap.size + 1, 8 + lv, none⟩ (.int .u64 0)) s1 ∧ Lo (w1.setCell ⟨w.heap.size + 1, 8 + lv, none⟩ (.int .u64 0)) b g w.heap.size (recO z8 z8 0 0) ∧ Lo (w1.setCell ⟨w.heap.size + 1, 8 + lv, none⟩ (.int .u64 0)) b g (w.heap.size + 1) (recO ((cL la).set lv a) ((tL la).set lv 0) wd (n : Int))) := hid ⟨H1.out.1.set H1.out.2.2 (by omega) _ _, H1.out.2.1.setOther _ H1.out.2.2 (by omega), H1.out.2.2.recT hset8 ht8 hlv 0⟩
            clear H1
            obtain ⟨w2, hw2⟩ : ∃ X, X = w1.setCell ⟨w.heap.size + 1, 8 + lv, none⟩ (.int .u64 0) := ⟨_, rfl⟩
            rw [← hw2] at H2
            have HWD : Hid (((⟨a, 0, 0⟩ : Lk).t) ≠ 0 → wd = (⟨a, 0, 0⟩ : Lk).k) := hid (fun q => absurd rfl q)
            have HL2 : Hid (Hs 30 w b g c w2 s1 ∧ Lo w2 b g w.heap.size (recO z8 z8 0 0) ∧ Lo w2 b g (w.heap.size + 1) (recO (cL (la.set lv ⟨a, 0, 0⟩)) (tL (la.set lv ⟨a, 0, 0⟩)) wd (n : Int))) := by rw [cL_set, tL_set]; exact H2
            clear H2
            subst hw2
            by_cases hz0 : lv = 0
            · have HZ0 := hid hz0
              have HFIN : Hid (s.search (pP past x) at_ = ((la.set lv ⟨a, 0, 0⟩, 0), s1) ∧ (la.set lv ⟨a, 0, 0⟩).length = 8 ∧ ((lk (la.set lv ⟨a, 0, 0⟩) 0).t ≠ 0 → wd = (lk (la.set lv ⟨a, 0, 0⟩) 0).k) ∧ Hs 30 w b g c (w1.setCell ⟨w.heap.size + 1, 8 + lv, none⟩ (.int .u64 0)) s1 ∧ Lo (w1.setCell ⟨w.heap.size + 1, 8 + lv, none⟩ (.int .u64 0)) b g w.heap.size (recO z8 z8 0 0) ∧ Lo (w1.setCell ⟨w.heap.size + 1, 8 + lv, none⟩ (.int .u64 0)) b g (w.heap.size + 1) (recO (cL (la.set lv ⟨a, 0, 0⟩)) (tL (la.set lv ⟨a, 0, 0⟩)) wd ((n : Nat) : Int))) := by
                refine hid ⟨?_, by simpa using hn8, ?_, HL2.out⟩
                · cases hz0
                  exact HY.out.eq.trans (sr_end HFO.out HNP.out)
                · cases hz0
                  rw [lk_set_same hn8 (by omega)]
                  exact HWD.out
              clear HY HFO HOK HL2 hz0
              go_wp2_with fail
              go_roundw
              case rel => exact .inr ⟨la.set lv ⟨a, 0, 0⟩, base, n, s1, wd, rfl, by have := HZ0.out; rw [show (lv : Int) - 1 = -1 by omega], HFIN⟩
              case measure => first | (simp [intOf]; done) | (simp [intOf]; omega)
            · have hpos : (0 : Int) < (lv : Int) := by omega
              have HNX : Hid (Rr w b g c (pP past x) at_ s (w1.setCell ⟨w.heap.size + 1, 8 + lv, none⟩ (.int .u64 0)) (lv - 1) (f - 1) (la.set lv ⟨a, 0, 0⟩) base (n) s1 wd) := by
                obtain ⟨m, rfl⟩ : ∃ m, lv = m + 1 := ⟨lv - 1, by omega⟩
                have hy := HY.out
                have hok := HOK.out
                have hle : (n) ≤ 65536 := hok.le hy.nl
                have hge : n ≤ (n) := hok.ge
                have hfu := hy.fu
                have hlen : (s1).L.length ≤ s'.L.length + 2 := hok.len
                have hrm := hy.rm
                obtain ⟨f', rfl⟩ : ∃ f', f = f' + 1 := ⟨f - 1, by omega⟩
                refine hid ⟨HL2.out.1, HL2.out.2.1, HL2.out.2.2, hy.eq.trans (sr_down HFO.out HNP.out), ?_, ?_, hy.bw, hle, ?_, by simpa using hn8⟩
                · show 65536 + m + 1 ≤ f' + (n)
                  omega
                · unfold Rm at hrm ⊢
                  show (s1).L.length + 2 * (f' + 1) ≤ 1000000
                  omega
                · show m < 8
                  omega
              clear HY HFO HOK HL2
              go_wp2_with fail
              go_roundw
              case rel => exact .inl ⟨lv - 1, f - 1, la.set lv ⟨a, 0, 0⟩, base, n, s1, wd, rfl, by rw [show ((lv - 1 : Nat) : Int) = (lv : Int) - 1 by omega], HNX⟩
              case measure => first | (simp [intOf]; done) | (simp [intOf]; omega)
          · have hlxb : (lx == 0) = false := by simpa using hlx
            by_cases hnf : n = 65536
            · subst hnf
              have HEQ : Hid (s.search (pP past x) at_ = ((zeros, 320), s1)) := by
                have q := fol_full eq1 hlx
                rw [← haa] at q
                exact hid (HY.out.eq.trans (sr_err q (by simp)))
              clear eq1
              go_wp2_with fail
              refine (wget_r HE1 haw (HY.out.rm.le (by omega)) HB.out.1.wd).mono ?_
              rintro e_ w1 ⟨rfl, h1⟩
              have H1 := hid (And.intro (HB.out.1.trans h1) (And.intro (HB.out.2.1.hs h1) (HB.out.2.2.hs h1)))
              clear HB h1 HE1 q0 qf r0
              have t0 := rec_t H1.out.2.2.at_ hset8 ht8 hlv
              have tf := rec_fr H1.out.2.2.at_
              have H2 : Hid (Hs 30 w b g c (w1.setCell ⟨w.heap.size + 1, 8 + lv, none⟩ (.int .u64 lx)) s1 ∧ Lo (w1.setCell ⟨w.heap.size + 1, 8 + lv, none⟩ (.int .u64 lx)) b g w.heap.size (recO z8 z8 0 0) ∧ Lo (w1.setCell ⟨w.heap.size + 1, 8 + lv, none⟩ (.int .u64 lx)) b g (w.heap.size + 1) (recO ((cL la).set lv a) ((tL la).set lv lx) wd ((65536 : Nat) : Int))) := hid ⟨H1.out.1.set H1.out.2.2 (by omega) _ _, H1.out.2.1.setOther _ H1.out.2.2 (by omega), H1.out.2.2.recT hset8 ht8 hlv lx⟩
              clear H1
              obtain ⟨w2, hw2⟩ : ∃ X, X = w1.setCell ⟨w.heap.size + 1, 8 + lv, none⟩ (.int .u64 lx) := ⟨_, rfl⟩
              rw [← hw2] at H2
              have n0 := rec_n H2.out.2.2.at_ hset8 ht8x
              have nf := rec_fr H2.out.2.2.at_
              have H3 : Hid (Hs 30 w b g c (w2.setCell ⟨w.heap.size + 1, 17, none⟩ (.int .i64 65537)) s1 ∧ Lo (w2.setCell ⟨w.heap.size + 1, 17, none⟩ (.int .i64 65537)) b g w.heap.size (recO z8 z8 0 0) ∧ Lo (w2.setCell ⟨w.heap.size + 1, 17, none⟩ (.int .i64 65537)) b g (w.heap.size + 1) (recO ((cL la).set lv a) ((tL la).set lv lx) wd 65537)) := hid ⟨H2.out.1.set H2.out.2.2 (by omega) _ _, H2.out.2.1.setOther _ H2.out.2.2 (by omega), H2.out.2.2.recN hset8 ht8x 65537⟩
              rw [hw2] at n0 nf H3
              go_wp2_with (first | (refine wpList_load_row rfl 109 _ rfl (w.heap.size + 1) rfl 109 (rcs ((cL la).set lv a) ((tL la).set lv lx) wd 65537) (0, 0) _ H3.out.2.2.at_ Try.underlying109 rfl (by rw [size_sea, rcs_size hset8 ht8x]) ?_) | (refine wpList_store_row rfl 109 _ _ rfl w.heap.size (rcs ((cL la).set lv a) ((tL la).set lv lx) wd 65537) rfl rfl 109 (rcs z8 z8 0 0) H3.out.2.1.at_ (by rw [size_sea, rcs_size hset8 ht8x]) (by rw [rcs_size rfl rfl, rcs_size hset8 ht8x]) (rcs_one _ _ _ _) ?_))
              refine bodyPost_ret (rec_ret rfl _ _ w.heap.size hset8 ht8x (setRow_at H3.out.2.1.at_ (rcs ((cL la).set lv a) ((tL la).set lv lx) wd 65537)) rfl) rfl ?_
              rw [HEQ.out]
              exact ⟨_, _, _, _, rfl, ⟨hset8, ht8x, fun q => absurd q (by simp), fun q => absurd q (by simp), fun q => absurd q (by simp)⟩, H3.out.1.step (setRow_keeps _ w.heap.size _) (fun i e => by subst e; exact ⟨Nat.le_refl _, H3.out.2.1.no⟩)⟩
            · have hn' : (n : Int) ≤ 65535 := by have := HY.out.nl; omega
              obtain ⟨m, hm⟩ : ∃ m : Int, (n : Int) + 1 = m := ⟨_, rfl⟩
              have hwn : IntKind.i64.wrap ((n : Int) + 1) = m := by rw [IntKind.wrap_i64, ← hm]; omega
              have hgt : decide ((65536 : Int) < m) = false := by rw [← hm]; simp; omega
              have hgl : m ≤ 65536 := by omega
              have HM := hid hm
              have HNF := hid hnf
              have HN' := hid hn'
              clear hn' hm
              obtain ⟨⟨⟨wk, e2⟩, s2⟩, eq2⟩ : ∃ r, s1.get (uw (lx - 1)) = r := ⟨_, rfl⟩
              have HE2 : Hid (_ = _) := eq2
              clear hnf
              by_cases he2 : e2 = 0
              · subst he2
                have HFO : Hid (s'.fol n (uw (base + (lv : Int))) = ((⟨a, lx, wk⟩, 0), n + 1, s2)) := by rw [haa]; exact hid (fol_y eq1 hlx HNF.out eq2)
                have HOK : Hid (FolOk s' n ((⟨a, lx, wk⟩, 0), n + 1, s2)) := by
                  have q := fol_ok HY.out.hs.wd.ok n (uw_isW (base + (lv : Int)))
                  rw [HFO.out] at q
                  exact hid q
                clear eq1 eq2
                go_wp2_with fail
                refine (wget_r HE1 haw (HY.out.rm.le (by omega)) HB.out.1.wd).mono ?_
                rintro e_ w1 ⟨rfl, h1⟩
                have H1 := hid (And.intro (HB.out.1.trans h1) (And.intro (HB.out.2.1.hs h1) (HB.out.2.2.hs h1)))
                clear HB h1 HE1 q0 qf r0
                have t0 := rec_t H1.out.2.2.at_ hset8 ht8 hlv
                have tf := rec_fr H1.out.2.2.at_
                have H2 : Hid (Hs 30 w b g c (w1.setCell ⟨w.heap.size + 1, 8 + lv, none⟩ (.int .u64 lx)) s1 ∧ Lo (w1.setCell ⟨w.heap.size + 1, 8 + lv, none⟩ (.int .u64 lx)) b g w.heap.size (recO z8 z8 0 0) ∧ Lo (w1.setCell ⟨w.heap.size + 1, 8 + lv, none⟩ (.int .u64 lx)) b g (w.heap.size + 1) (recO ((cL la).set lv a) ((tL la).set lv lx) wd (n : Int))) := hid ⟨H1.out.1.set H1.out.2.2 (by omega) _ _, H1.out.2.1.setOther _ H1.out.2.2 (by omega), H1.out.2.2.recT hset8 ht8 hlv lx⟩
                clear H1
                obtain ⟨w2, hw2⟩ : ∃ X, X = w1.setCell ⟨w.heap.size + 1, 8 + lv, none⟩ (.int .u64 lx) := ⟨_, rfl⟩
                rw [← hw2] at H2
                have n0 := rec_n H2.out.2.2.at_ hset8 ht8x
                have nf := rec_fr H2.out.2.2.at_
                have H3 : Hid (Hs 30 w b g c (w2.setCell ⟨w.heap.size + 1, 17, none⟩ (.int .i64 m)) s1 ∧ Lo (w2.setCell ⟨w.heap.size + 1, 17, none⟩ (.int .i64 m)) b g w.heap.size (recO z8 z8 0 0) ∧ Lo (w2.setCell ⟨w.heap.size + 1, 17, none⟩ (.int .i64 m)) b g (w.heap.size + 1) (recO ((cL la).set lv a) ((tL la).set lv lx) wd m)) := hid ⟨H2.out.1.set H2.out.2.2 (by omega) _ _, H2.out.2.1.setOther _ H2.out.2.2 (by omega), H2.out.2.2.recN hset8 ht8x _⟩
                rw [hw2] at n0 nf H3
                clear H2
                have n1 := rec_n H3.out.2.2.at_ hset8 ht8x
                go_wp2_with fail
                refine (wget_r HE2 (uw_isW _) rms1 H3.out.1.wd).mono ?_
                rintro e_ w4 ⟨rfl, h4⟩
                have H4 := hid (And.intro (H3.out.1.trans h4) (And.intro (H3.out.2.1.hs h4) (H3.out.2.2.hs h4)))
                clear H3 h4 HE2 hw2 t0 tf n0 nf n1
                have w16 := rec_w H4.out.2.2.at_ hset8 ht8x
                have w16f := rec_fr H4.out.2.2.at_
                have HL2 : Hid (Hs 30 w b g c (w4.setCell ⟨w.heap.size + 1, 16, none⟩ (.int .u64 wk)) s2 ∧ Lo (w4.setCell ⟨w.heap.size + 1, 16, none⟩ (.int .u64 wk)) b g w.heap.size (recO z8 z8 0 0) ∧ Lo (w4.setCell ⟨w.heap.size + 1, 16, none⟩ (.int .u64 wk)) b g (w.heap.size + 1) (recO (cL (la.set lv ⟨a, lx, wk⟩)) (tL (la.set lv ⟨a, lx, wk⟩)) wk ((n + 1 : Nat) : Int))) := by
                  rw [cL_set, tL_set, show ((n + 1 : Nat) : Int) = m by have := HM.out; omega]
                  exact hid ⟨H4.out.1.set H4.out.2.2 (by omega) _ _, H4.out.2.1.setOther _ H4.out.2.2 (by omega), H4.out.2.2.recW hset8 ht8x wk⟩
                have HWD : Hid (((⟨a, lx, wk⟩ : Lk).t) ≠ 0 → wk = (⟨a, lx, wk⟩ : Lk).k) := hid (fun _ => rfl)
                clear H4
                by_cases hp : pP past x wk = true
                · have HNX : Hid (Rr w b g c (pP past x) at_ s (w4.setCell ⟨w.heap.size + 1, 16, none⟩ (.int .u64 wk)) lv (f - 1) (la.set lv ⟨a, lx, wk⟩) (uw (uw (lx - 1) + 2)) (n + 1) s2 wk) := by
                    have hy := HY.out
                    have hok := HOK.out
                    have hfu := hy.fu
                    have hnl := hy.nl
                    have hN' := HN'.out
                    have hlen : s2.L.length ≤ s'.L.length + 2 := hok.len
                    have hrm := hy.rm
                    obtain ⟨f', rfl⟩ : ∃ f', f = f' + 1 := ⟨f - 1, by omega⟩
                    refine hid ⟨HL2.out.1, HL2.out.2.1, HL2.out.2.2, hy.eq.trans (sr_pass HFO.out ⟨hlx, hp⟩), ?_, ?_, uw_isW _, by omega, hlv, by simpa using hn8⟩
                    · show 65536 + lv + 1 ≤ f' + (n + 1)
                      omega
                    · unfold Rm at hrm ⊢
                      show s2.L.length + 2 * (f' + 1) ≤ 1000000
                      omega
                  have HMS : Hid (measR (w4.setCell ⟨w.heap.size + 1, 16, none⟩ (.int .u64 wk)) (w.heap.size + 1) < measR wr (w.heap.size + 1)) := by
                    rw [measR_of HNX.out.l10.at_ (by unfold cL; simpa using hn8) (by unfold tL; simpa using hn8), measR_of HY.out.l10.at_ hc8 ht8]
                    have hN' := HN'.out
                    refine hid ?_
                    omega
                  clear HY HOK HFO HL2
                  cases past with
                  | false =>
                    have hlt : wk < x := by simpa [pP, pLt] using hp
                    have h1 : ¬ x < wk := by omega
                    have h2 : (wk == x) = false := by simp; omega
                    go_wp2_with fail
                    go_roundw
                    case rel => exact ⟨f - 1, _, _, n + 1, s2, wk, rfl, HNX⟩
                    case measure => exact HMS.out
                  | true =>
                    have hle : wk ≤ x := by simpa [pP, pLe] using hp
                    have h1 : ¬ x < wk := by omega
                    by_cases hwe : wk = x
                    · subst hwe
                      go_wp2_with fail
                      go_roundw
                      case rel => exact ⟨f - 1, _, _, n + 1, s2, _, rfl, HNX⟩
                      case measure => exact HMS.out
                    · have h2 : (wk == x) = false := by simpa using hwe
                      go_wp2_with fail
                      go_roundw
                      case rel => exact ⟨f - 1, _, _, n + 1, s2, wk, rfl, HNX⟩
                      case measure => exact HMS.out
                · have HNP : Hid (¬ (((⟨a, lx, wk⟩ : Lk).t) ≠ 0 ∧ pP past x (⟨a, lx, wk⟩ : Lk).k = true)) := hid (fun q => hp q.2)
                  cases past with
                  | false =>
                    have hlt : ¬ wk < x := by simpa [pP, pLt] using hp
                    by_cases hgx : x < wk
                    · skip
                      by_cases hz0 : lv = 0
                      · have HZ0 := hid hz0
                        have HFIN : Hid (s.search (pP false x) at_ = ((la.set lv ⟨a, lx, wk⟩, 0), s2) ∧ (la.set lv ⟨a, lx, wk⟩).length = 8 ∧ ((lk (la.set lv ⟨a, lx, wk⟩) 0).t ≠ 0 → wk = (lk (la.set lv ⟨a, lx, wk⟩) 0).k) ∧ Hs 30 w b g c (w4.setCell ⟨w.heap.size + 1, 16, none⟩ (.int .u64 wk)) s2 ∧ Lo (w4.setCell ⟨w.heap.size + 1, 16, none⟩ (.int .u64 wk)) b g w.heap.size (recO z8 z8 0 0) ∧ Lo (w4.setCell ⟨w.heap.size + 1, 16, none⟩ (.int .u64 wk)) b g (w.heap.size + 1) (recO (cL (la.set lv ⟨a, lx, wk⟩)) (tL (la.set lv ⟨a, lx, wk⟩)) wk ((n + 1 : Nat) : Int))) := by
                          refine hid ⟨?_, by simpa using hn8, ?_, HL2.out⟩
                          · cases hz0
                            exact HY.out.eq.trans (sr_end HFO.out HNP.out)
                          · cases hz0
                            rw [lk_set_same hn8 (by omega)]
                            exact HWD.out
                        clear HY HFO HOK HL2 hz0
                        go_wp2_with fail
                        go_roundw
                        case rel => exact .inr ⟨la.set lv ⟨a, lx, wk⟩, base, n + 1, s2, wk, rfl, by have := HZ0.out; rw [show (lv : Int) - 1 = -1 by omega], HFIN⟩
                        case measure => first | (simp [intOf]; done) | (simp [intOf]; omega)
                      · have hpos : (0 : Int) < (lv : Int) := by omega
                        have HNX : Hid (Rr w b g c (pP false x) at_ s (w4.setCell ⟨w.heap.size + 1, 16, none⟩ (.int .u64 wk)) (lv - 1) (f - 1) (la.set lv ⟨a, lx, wk⟩) base (n + 1) s2 wk) := by
                          obtain ⟨m, rfl⟩ : ∃ m, lv = m + 1 := ⟨lv - 1, by omega⟩
                          have hy := HY.out
                          have hok := HOK.out
                          have hle : (n + 1) ≤ 65536 := hok.le hy.nl
                          have hge : n ≤ (n + 1) := hok.ge
                          have hfu := hy.fu
                          have hlen : (s2).L.length ≤ s'.L.length + 2 := hok.len
                          have hrm := hy.rm
                          obtain ⟨f', rfl⟩ : ∃ f', f = f' + 1 := ⟨f - 1, by omega⟩
                          refine hid ⟨HL2.out.1, HL2.out.2.1, HL2.out.2.2, hy.eq.trans (sr_down HFO.out HNP.out), ?_, ?_, hy.bw, hle, ?_, by simpa using hn8⟩
                          · show 65536 + m + 1 ≤ f' + (n + 1)
                            omega
                          · unfold Rm at hrm ⊢
                            show (s2).L.length + 2 * (f' + 1) ≤ 1000000
                            omega
                          · show m < 8
                            omega
                        clear HY HFO HOK HL2
                        go_wp2_with fail
                        go_roundw
                        case rel => exact .inl ⟨lv - 1, f - 1, la.set lv ⟨a, lx, wk⟩, base, n + 1, s2, wk, rfl, by rw [show ((lv - 1 : Nat) : Int) = (lv : Int) - 1 by omega], HNX⟩
                        case measure => first | (simp [intOf]; done) | (simp [intOf]; omega)
                    · obtain rfl : wk = x := by omega
                      by_cases hz0 : lv = 0
                      · have HZ0 := hid hz0
                        have HFIN : Hid (s.search (pP false wk) at_ = ((la.set lv ⟨a, lx, wk⟩, 0), s2) ∧ (la.set lv ⟨a, lx, wk⟩).length = 8 ∧ ((lk (la.set lv ⟨a, lx, wk⟩) 0).t ≠ 0 → wk = (lk (la.set lv ⟨a, lx, wk⟩) 0).k) ∧ Hs 30 w b g c (w4.setCell ⟨w.heap.size + 1, 16, none⟩ (.int .u64 wk)) s2 ∧ Lo (w4.setCell ⟨w.heap.size + 1, 16, none⟩ (.int .u64 wk)) b g w.heap.size (recO z8 z8 0 0) ∧ Lo (w4.setCell ⟨w.heap.size + 1, 16, none⟩ (.int .u64 wk)) b g (w.heap.size + 1) (recO (cL (la.set lv ⟨a, lx, wk⟩)) (tL (la.set lv ⟨a, lx, wk⟩)) wk ((n + 1 : Nat) : Int))) := by
                          refine hid ⟨?_, by simpa using hn8, ?_, HL2.out⟩
                          · cases hz0
                            exact HY.out.eq.trans (sr_end HFO.out HNP.out)
                          · cases hz0
                            rw [lk_set_same hn8 (by omega)]
                            exact HWD.out
                        clear HY HFO HOK HL2 hz0
                        go_wp2_with fail
                        go_roundw
                        case rel => exact .inr ⟨la.set lv ⟨a, lx, wk⟩, base, n + 1, s2, wk, rfl, by have := HZ0.out; rw [show (lv : Int) - 1 = -1 by omega], HFIN⟩
                        case measure => first | (simp [intOf]; done) | (simp [intOf]; omega)
                      · have hpos : (0 : Int) < (lv : Int) := by omega
                        have HNX : Hid (Rr w b g c (pP false wk) at_ s (w4.setCell ⟨w.heap.size + 1, 16, none⟩ (.int .u64 wk)) (lv - 1) (f - 1) (la.set lv ⟨a, lx, wk⟩) base (n + 1) s2 wk) := by
                          obtain ⟨m, rfl⟩ : ∃ m, lv = m + 1 := ⟨lv - 1, by omega⟩
                          have hy := HY.out
                          have hok := HOK.out
                          have hle : (n + 1) ≤ 65536 := hok.le hy.nl
                          have hge : n ≤ (n + 1) := hok.ge
                          have hfu := hy.fu
                          have hlen : (s2).L.length ≤ s'.L.length + 2 := hok.len
                          have hrm := hy.rm
                          obtain ⟨f', rfl⟩ : ∃ f', f = f' + 1 := ⟨f - 1, by omega⟩
                          refine hid ⟨HL2.out.1, HL2.out.2.1, HL2.out.2.2, hy.eq.trans (sr_down HFO.out HNP.out), ?_, ?_, hy.bw, hle, ?_, by simpa using hn8⟩
                          · show 65536 + m + 1 ≤ f' + (n + 1)
                            omega
                          · unfold Rm at hrm ⊢
                            show (s2).L.length + 2 * (f' + 1) ≤ 1000000
                            omega
                          · show m < 8
                            omega
                        clear HY HFO HOK HL2
                        go_wp2_with fail
                        go_roundw
                        case rel => exact .inl ⟨lv - 1, f - 1, la.set lv ⟨a, lx, wk⟩, base, n + 1, s2, wk, rfl, by rw [show ((lv - 1 : Nat) : Int) = (lv : Int) - 1 by omega], HNX⟩
                        case measure => first | (simp [intOf]; done) | (simp [intOf]; omega)
                  | true =>
                    have hgx : x < wk := by have : ¬ wk ≤ x := by simpa [pP, pLe] using hp
                                            omega
                    by_cases hz0 : lv = 0
                    · have HZ0 := hid hz0
                      have HFIN : Hid (s.search (pP true x) at_ = ((la.set lv ⟨a, lx, wk⟩, 0), s2) ∧ (la.set lv ⟨a, lx, wk⟩).length = 8 ∧ ((lk (la.set lv ⟨a, lx, wk⟩) 0).t ≠ 0 → wk = (lk (la.set lv ⟨a, lx, wk⟩) 0).k) ∧ Hs 30 w b g c (w4.setCell ⟨w.heap.size + 1, 16, none⟩ (.int .u64 wk)) s2 ∧ Lo (w4.setCell ⟨w.heap.size + 1, 16, none⟩ (.int .u64 wk)) b g w.heap.size (recO z8 z8 0 0) ∧ Lo (w4.setCell ⟨w.heap.size + 1, 16, none⟩ (.int .u64 wk)) b g (w.heap.size + 1) (recO (cL (la.set lv ⟨a, lx, wk⟩)) (tL (la.set lv ⟨a, lx, wk⟩)) wk ((n + 1 : Nat) : Int))) := by
                        refine hid ⟨?_, by simpa using hn8, ?_, HL2.out⟩
                        · cases hz0
                          exact HY.out.eq.trans (sr_end HFO.out HNP.out)
                        · cases hz0
                          rw [lk_set_same hn8 (by omega)]
                          exact HWD.out
                      clear HY HFO HOK HL2 hz0
                      go_wp2_with fail
                      go_roundw
                      case rel => exact .inr ⟨la.set lv ⟨a, lx, wk⟩, base, n + 1, s2, wk, rfl, by have := HZ0.out; rw [show (lv : Int) - 1 = -1 by omega], HFIN⟩
                      case measure => first | (simp [intOf]; done) | (simp [intOf]; omega)
                    · have hpos : (0 : Int) < (lv : Int) := by omega
                      have HNX : Hid (Rr w b g c (pP true x) at_ s (w4.setCell ⟨w.heap.size + 1, 16, none⟩ (.int .u64 wk)) (lv - 1) (f - 1) (la.set lv ⟨a, lx, wk⟩) base (n + 1) s2 wk) := by
                        obtain ⟨m, rfl⟩ : ∃ m, lv = m + 1 := ⟨lv - 1, by omega⟩
                        have hy := HY.out
                        have hok := HOK.out
                        have hle : (n + 1) ≤ 65536 := hok.le hy.nl
                        have hge : n ≤ (n + 1) := hok.ge
                        have hfu := hy.fu
                        have hlen : (s2).L.length ≤ s'.L.length + 2 := hok.len
                        have hrm := hy.rm
                        obtain ⟨f', rfl⟩ : ∃ f', f = f' + 1 := ⟨f - 1, by omega⟩
                        refine hid ⟨HL2.out.1, HL2.out.2.1, HL2.out.2.2, hy.eq.trans (sr_down HFO.out HNP.out), ?_, ?_, hy.bw, hle, ?_, by simpa using hn8⟩
                        · show 65536 + m + 1 ≤ f' + (n + 1)
                          omega
                        · unfold Rm at hrm ⊢
                          show (s2).L.length + 2 * (f' + 1) ≤ 1000000
                          omega
                        · show m < 8
                          omega
                      clear HY HFO HOK HL2
                      go_wp2_with fail
                      go_roundw
                      case rel => exact .inl ⟨lv - 1, f - 1, la.set lv ⟨a, lx, wk⟩, base, n + 1, s2, wk, rfl, by rw [show ((lv - 1 : Nat) : Int) = (lv : Int) - 1 by omega], HNX⟩
                      case measure => first | (simp [intOf]; done) | (simp [intOf]; omega)
              · have HEQ : Hid (s.search (pP past x) at_ = ((zeros, e2), s2)) := by
                  have q := fol_e2 eq1 hlx HNF.out eq2 he2
                  rw [← haa] at q
                  exact hid (HY.out.eq.trans (sr_err q he2))
                clear eq1 eq2
                go_wp2_with fail
                refine (wget_r HE1 haw (HY.out.rm.le (by omega)) HB.out.1.wd).mono ?_
                rintro e_ w1 ⟨rfl, h1⟩
                have H1 := hid (And.intro (HB.out.1.trans h1) (And.intro (HB.out.2.1.hs h1) (HB.out.2.2.hs h1)))
                clear HB h1 HE1 q0 qf r0
                have t0 := rec_t H1.out.2.2.at_ hset8 ht8 hlv
                have tf := rec_fr H1.out.2.2.at_
                have H2 : Hid (Hs 30 w b g c (w1.setCell ⟨w.heap.size + 1, 8 + lv, none⟩ (.int .u64 lx)) s1 ∧ Lo (w1.setCell ⟨w.heap.size + 1, 8 + lv, none⟩ (.int .u64 lx)) b g w.heap.size (recO z8 z8 0 0) ∧ Lo (w1.setCell ⟨w.heap.size + 1, 8 + lv, none⟩ (.int .u64 lx)) b g (w.heap.size + 1) (recO ((cL la).set lv a) ((tL la).set lv lx) wd (n : Int))) := hid ⟨H1.out.1.set H1.out.2.2 (by omega) _ _, H1.out.2.1.setOther _ H1.out.2.2 (by omega), H1.out.2.2.recT hset8 ht8 hlv lx⟩
                clear H1
                obtain ⟨w2, hw2⟩ : ∃ X, X = w1.setCell ⟨w.heap.size + 1, 8 + lv, none⟩ (.int .u64 lx) := ⟨_, rfl⟩
                rw [← hw2] at H2
                have n0 := rec_n H2.out.2.2.at_ hset8 ht8x
                have nf := rec_fr H2.out.2.2.at_
                have H3 : Hid (Hs 30 w b g c (w2.setCell ⟨w.heap.size + 1, 17, none⟩ (.int .i64 m)) s1 ∧ Lo (w2.setCell ⟨w.heap.size + 1, 17, none⟩ (.int .i64 m)) b g w.heap.size (recO z8 z8 0 0) ∧ Lo (w2.setCell ⟨w.heap.size + 1, 17, none⟩ (.int .i64 m)) b g (w.heap.size + 1) (recO ((cL la).set lv a) ((tL la).set lv lx) wd m)) := hid ⟨H2.out.1.set H2.out.2.2 (by omega) _ _, H2.out.2.1.setOther _ H2.out.2.2 (by omega), H2.out.2.2.recN hset8 ht8x _⟩
                rw [hw2] at n0 nf H3
                clear H2
                have n1 := rec_n H3.out.2.2.at_ hset8 ht8x
                go_wp2_with fail
                refine (wget_r HE2 (uw_isW _) rms1 H3.out.1.wd).mono ?_
                rintro e_ w4 ⟨rfl, h4⟩
                have H4 := hid (And.intro (H3.out.1.trans h4) (And.intro (H3.out.2.1.hs h4) (H3.out.2.2.hs h4)))
                clear H3 h4 HE2 hw2 t0 tf n0 nf n1
                go_wp2_with (first | (refine wpList_load_row rfl 109 _ rfl (w.heap.size + 1) rfl 109 (rcs ((cL la).set lv a) ((tL la).set lv lx) wd m) (0, 0) _ H4.out.2.2.at_ Try.underlying109 rfl (by rw [size_sea, rcs_size hset8 ht8x]) ?_) | (refine wpList_store_row rfl 109 _ _ rfl w.heap.size (rcs ((cL la).set lv a) ((tL la).set lv lx) wd m) rfl rfl 109 (rcs z8 z8 0 0) H4.out.2.1.at_ (by rw [size_sea, rcs_size hset8 ht8x]) (by rw [rcs_size rfl rfl, rcs_size hset8 ht8x]) (rcs_one _ _ _ _) ?_))
                refine bodyPost_ret (rec_ret rfl _ _ w.heap.size hset8 ht8x (setRow_at H4.out.2.1.at_ (rcs ((cL la).set lv a) ((tL la).set lv lx) wd m)) rfl) rfl ?_
                rw [HEQ.out]
                exact ⟨_, _, _, _, rfl, ⟨hset8, ht8x, fun q => absurd q he2, fun q => absurd q he2, fun q => absurd q he2⟩, H4.out.1.step (setRow_keeps _ w.heap.size _) (fun i e => by subst e; exact ⟨Nat.le_refl _, H4.out.2.1.no⟩)⟩
        · have HEQ : Hid (s.search (pP past x) at_ = ((zeros, e), s1)) := by
            have q := fol_e1 (n := n) eq1 he
            rw [← haa] at q
            exact hid (HY.out.eq.trans (sr_err q he))
          clear eq1
          go_wp2_with fail
          refine (wget_r HE1 haw (HY.out.rm.le (by omega)) HB.out.1.wd).mono ?_
          rintro e_ w1 ⟨rfl, h1⟩
          have H1 := hid (And.intro (HB.out.1.trans h1) (And.intro (HB.out.2.1.hs h1) (HB.out.2.2.hs h1)))
          clear HB h1 HE1 q0 qf r0
          go_wp2_with (first | (refine wpList_load_row rfl 109 _ rfl (w.heap.size + 1) rfl 109 (rcs ((cL la).set lv a) (tL la) wd (n : Int)) (0, 0) _ H1.out.2.2.at_ Try.underlying109 rfl (by rw [size_sea, rcs_size hset8 ht8]) ?_) | (refine wpList_store_row rfl 109 _ _ rfl w.heap.size (rcs ((cL la).set lv a) (tL la) wd (n : Int)) rfl rfl 109 (rcs z8 z8 0 0) H1.out.2.1.at_ (by rw [size_sea, rcs_size hset8 ht8]) (by rw [rcs_size rfl rfl, rcs_size hset8 ht8]) (rcs_one _ _ _ _) ?_))
          refine bodyPost_ret (rec_ret rfl _ _ w.heap.size hset8 ht8 (setRow_at H1.out.2.1.at_ (rcs ((cL la).set lv a) (tL la) wd (n : Int))) rfl) rfl ?_
          rw [HEQ.out]
          exact ⟨_, _, _, _, rfl, ⟨hset8, ht8, fun q => absurd q he, fun q => absurd q he, fun q => absurd q he⟩, H1.out.1.step (setRow_keeps _ w.heap.size _) (fun i e => by subst e; exact ⟨Nat.le_refl _, H1.out.2.1.no⟩)⟩
    · have hc8 : (cL la).length = 8 := by unfold cL; rw [List.length_map]; exact HJ.out.2.1
      have ht8 : (tL la).length = 8 := by unfold tL; rw [List.length_map]; exact HJ.out.2.1
      have HJ2 := hid HJ.out.2.2.2
      go_wp2_with (first | (refine wpList_load_row rfl 109 _ rfl (w.heap.size + 1) rfl 109 (rcs (cL la) (tL la) wd (n : Int)) (0, 0) _ HJ2.out.2.2.at_ Try.underlying109 rfl (by rw [size_sea, rcs_size hc8 ht8]) ?_) | (refine wpList_store_row rfl 109 _ _ rfl w.heap.size (rcs (cL la) (tL la) wd (n : Int)) rfl rfl 109 (rcs z8 z8 0 0) HJ2.out.2.1.at_ (by rw [size_sea, rcs_size hc8 ht8]) (by rw [rcs_size rfl rfl, rcs_size hc8 ht8]) (rcs_one _ _ _ _) ?_))
      refine bodyPost_ret (rec_ret rfl _ _ w.heap.size hc8 ht8 (setRow_at HJ2.out.2.1.at_ (rcs (cL la) (tL la) wd (n : Int))) rfl) rfl ?_
      rw [HJ.out.1]
      exact ⟨_, _, _, _, rfl, ⟨hc8, ht8, fun _ => rfl, fun _ => rfl, fun _ => HJ.out.2.2.1⟩, HJ2.out.1.step (setRow_keeps _ w.heap.size _) (fun i e => by subst e; exact ⟨Nat.le_refl _, HJ2.out.2.1.no⟩)⟩
end Go.Proofs.Ytjgibkofenkehaa
