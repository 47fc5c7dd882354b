
/- A walk of the document's block (package parleyref15). No statement of the seat is proved here. -/
import Derived.Test.YtjkileijkgbndaaDoorWiJ
import Derived.Test.YtjkileijkgbndaaDoorWiD
import Derived.Laws.Rows
namespace Go.Proofs.YtjkileijkgbndaaDoor
open Go.RowKit Go.Shelf

theorem row_keeps (w : World) (b : Nat) (cs : Array Value) : Keeps (fun q => q = b) w (w.setRow b cs) :=
  ⟨rfl, rfl, rfl, by simp [World.setRow], fun k hk hs => by simp [World.setRow, Array.getElem?_modify, show ¬ b = k by omega]⟩
theorem size_blk : (Tryd.prog.info? 43).map (·.size) = some 9 := by kernel_rfl
theorem results_ct {fn : Func} {t p : Tmp} {ty : TypeId} (h : fn.results = #[.cell p ty, .tmp t]) (tmps : Array Value) (P : Program) (w : World) :
    (results fn tmps).run P w = ((asAddr (tmps.getD p undef)).run P w).andThen fun a w₁ => ((loadVar ty a).run P w₁).andThen fun v w₂ => .ok (.tuple #[v, tmps.getD t undef]) w₂ := by
  simp only [results, h]
  simp [Sem.run_bind, Result.andThen]
theorem blk_ret {fn : Func} {t p : Tmp} (h : fn.results = #[.cell p 43, .tmp t]) (tmps : Array Value) (w : World) (b : Nat) (cs : Array Value) (hb : w.heap[b]? = some (.cells cs 43 (0, 0))) (hs : cs.size = 9)
    (hp : tmps.getD p undef = .pointer (some ⟨b, 0, none⟩)) : (results fn tmps).run Tryd.prog w = .ok (.tuple #[.agg cs, tmps.getD t undef]) w := by
  rw [results_ct h, hp]
  simp [asAddr, run_loadVar_row w b 43 43 cs (0, 0) _ hb Tryd.underlying43 rfl (by rw [size_blk, hs]), Result.andThen]
/-- A block while it is put together: its box, its rows. -/
structure Bst (w wr : World) (b : Nat) (cs : Array Value) (rs ws : List (Int × Int)) (r s : Sl) : Prop where
  kp : Keeps (fun _ => False) w wr
  lt : w.heap.size < b
  res : wr.heap[w.heap.size]? = some (.cells #[.int .i64 0, .int .i64 0, .int .i64 0, .int .i64 0, .int .u64 0, .bool false, .int .i64 0, .slice none 0 0, .slice none 0 0] 43 (0, 0))
  box : wr.heap[b]? = some (.cells cs 43 (0, 0))
  rd : EnR wr (b + 1) r.v rs
  wt : EnR wr (b + 1) s.v ws
  ap : ∀ g, r.v.ownBlock = some g → s.v.ownBlock ≠ some g
section
variable {w wr : World} {b : Nat} {cs : Array Value} {rs ws : List (Int × Int)} {r s : Sl}
theorem Bst.up {w' : World} (h : Bst w wr b cs rs ws r s) (k : Keeps (fun _ => False) wr w') : Bst w w' b cs rs ws r s :=
  ⟨h.kp.trans k, h.lt, (k.block _ (lt_of_block h.res) (fun f => f)).trans h.res, (k.block _ (lt_of_block h.box) (fun f => f)).trans h.box, h.rd.keeps k (fun _ _ f => f), h.wt.keeps k (fun _ _ f => f), h.ap⟩
theorem Bst.set (h : Bst w wr b cs rs ws r s) (o : Nat) (u : Value) : Bst w (wr.setCell ⟨b, o, none⟩ u) b (cs.setIfInBounds o u) rs ws r s := by
  have k : Keeps (fun q => q = b) wr (wr.setCell ⟨b, o, none⟩ u) := Keeps.setCell (S := fun q => q = b) (p := ⟨b, o, none⟩) (Keeps.refl _ wr) (.inr rfl) u
  have hl := h.lt
  have hn : ∀ {v : Value} {L : List (Int × Int)}, EnR wr (b + 1) v L → ∀ g, v.ownBlock = some g → ¬ g = b := fun hv g hg e => by have := (own_block hv.own hg).2; omega
  exact ⟨h.kp.setCell (.inl (by show w.heap.size ≤ b; omega)) u, h.lt, (k.block _ (lt_of_block h.res) (by omega)).trans h.res, block_set h.box o u, h.rd.keeps k (hn h.rd), h.wt.keeps k (hn h.wt), h.ap⟩
theorem Bst.reads {w1 : World} (h : Bst w wr b cs rs ws r s) (y : Sl) (rs' : List (Int × Int)) (hI : EnR w1 (b + 1) y.v rs') (g : Grew wr w1 r.v y.v) : Bst w w1 b cs rs' ws y s := by
  have hl := h.lt
  have hr : ∀ q, r.v.ownBlock = some q → b + 1 ≤ q := fun q hq => (own_block h.rd.own hq).2
  refine ⟨⟨g.keeps.os.trans h.kp.os, g.keeps.tape.trans h.kp.tape, g.keeps.output.trans h.kp.output, Nat.le_trans h.kp.size g.keeps.size, fun q hq hs => (g.keeps.block q (Nat.lt_of_lt_of_le hq h.kp.size) fun e => by have := hr q e; omega).trans (h.kp.block q hq hs)⟩, h.lt, (g.keeps.block _ (lt_of_block h.res) (fun e => by have := hr _ e; omega)).trans h.res, (g.keeps.block _ (lt_of_block h.box) (fun e => by have := hr _ e; omega)).trans h.box, hI, h.wt.keeps g.keeps (fun q hq e => h.ap q e hq), fun q hq e => ?_⟩
  rcases g.own with ho | ho
  · exact h.ap q (ho ▸ hq) e
  · have h1 := ho q hq
    have h2 := (own_block h.wt.own e).1
    omega
theorem Bst.writes {w1 : World} (h : Bst w wr b cs rs ws r s) (y : Sl) (ws' : List (Int × Int)) (hI : EnR w1 (b + 1) y.v ws') (g : Grew wr w1 s.v y.v) : Bst w w1 b cs rs ws' r y := by
  have hl := h.lt
  have hr : ∀ q, s.v.ownBlock = some q → b + 1 ≤ q := fun q hq => (own_block h.wt.own hq).2
  refine ⟨⟨g.keeps.os.trans h.kp.os, g.keeps.tape.trans h.kp.tape, g.keeps.output.trans h.kp.output, Nat.le_trans h.kp.size g.keeps.size, fun q hq hs => (g.keeps.block q (Nat.lt_of_lt_of_le hq h.kp.size) fun e => by have := hr q e; omega).trans (h.kp.block q hq hs)⟩, h.lt, (g.keeps.block _ (lt_of_block h.res) (fun e => by have := hr _ e; omega)).trans h.res, (g.keeps.block _ (lt_of_block h.box) (fun e => by have := hr _ e; omega)).trans h.box, h.rd.keeps g.keeps (fun q hq e => h.ap q hq e), hI, fun q hq e => ?_⟩
  rcases g.own with ho | ho
  · exact h.ap q hq (ho ▸ e)
  · have h1 := ho q e
    have h2 := (own_block h.rd.own hq).1
    omega
end
/-- What block answers. -/
def BkPost (z : Pt) (w : World) (ex : Ending) (w' : World) : Prop := ∃ r s : Sl, ex = .returned (.tuple #[.agg (Bx.cb ⟨z, r, s⟩).toArray, .int .i64 z.si]) ∧ Rws w' w.heap.size [⟨z, r, s⟩] ∧ Keeps (fun _ => False) w w'
theorem Bst.post {w wr w' : World} {b : Nat} {cs : Array Value} {z : Pt} {r s : Sl} (h : Bst w wr b cs z.rs z.ws r s) (k : Keeps (fun q => q = w.heap.size) wr w') : BkPost z w (.returned (.tuple #[.agg (Bx.cb ⟨z, r, s⟩).toArray, .int .i64 z.si])) w' := by
  have hl := h.lt
  have hn : ∀ {v : Value} {L : List (Int × Int)}, EnR wr (b + 1) v L → ∀ g, v.ownBlock = some g → ¬ g = w.heap.size := fun hv g hg e => by have := (own_block hv.own hg).2; omega
  refine ⟨r, s, rfl, ⟨fun x hx => ?_, fun x hx => ?_, ?_⟩, h.kp.young k (fun q e => by omega)⟩
  · simp only [List.mem_singleton] at hx
    subst hx; exact (h.rd.keeps k (hn h.rd)).low (by omega)
  · simp only [List.mem_singleton] at hx
    subst hx; exact (h.wt.keeps k (hn h.wt)).low (by omega)
  · simp only [ows, Bx.ow, List.flatMap_cons, List.flatMap_nil, List.append_nil]
    rw [List.nodup_append]
    refine ⟨by cases r.v.ownBlock <;> simp, by cases s.v.ownBlock <;> simp, fun a ha c hc e => ?_⟩
    subst e
    exact h.ap a (Option.mem_toList.1 ha) (Option.mem_toList.1 hc)

def bkV (th p la nu : Int) (r s : Sl) : Array Value := #[.int .i64 th, .int .i64 5, .int .i64 p, .int .i64 la, .int .u64 nu, .bool false, .int .i64 0, r.v, s.v]
theorem blk9 {w : World} {g : Nat} {a b c d e f x y z : Value} {t : TypeId} {fr : Nat × Nat} (h : w.heap[g]? = some (.cells #[a, b, c, d, e, f, x, y, z] t fr)) : w.cell? ⟨g, 0, none⟩ = some a ∧ w.cell? ⟨g, 1, none⟩ = some b ∧ w.cell? ⟨g, 4, none⟩ = some e ∧ w.cell? ⟨g, 5, none⟩ = some f ∧ w.cell? ⟨g, 6, none⟩ = some x ∧ w.cell? ⟨g, 7, none⟩ = some y ∧ w.cell? ⟨g, 8, none⟩ = some z :=
  ⟨by rw [cell_of_block h]; rfl, by rw [cell_of_block h]; rfl, by rw [cell_of_block h]; rfl, by rw [cell_of_block h]; rfl, by rw [cell_of_block h]; rfl, by rw [cell_of_block h]; rfl, by rw [cell_of_block h]; rfl⟩
/-- How far the document's block is: q so far, z in the end. -/
def Far (L : List Ev) (z q : Pt) (k : Nat) : Prop := (q.kd = 5 ∧ q.wr = false ∧ q.er = 0 ∧ q.th = z.th ∧ q.fi = z.fi) ∧ (z = blkG q (L.drop k) k ∨ ∃ (j : Nat) (e : Ev), k = j + 1 ∧ L[j]? = some e ∧ z = noteP q j e ∧ endB e.kd = true)
theorem noteP_still {q : Pt} {k : Int} {e : Ev} (h : ¬ endB e.kd = true) : (noteP q k e).wr = q.wr ∧ (noteP q k e).er = q.er := by
  unfold endB at h
  simp only [decide_eq_true_eq] at h
  unfold noteP
  rw [if_neg (c := e.kd = 6) (by omega), if_neg (c := e.kd = 8) (by omega), if_neg (c := e.kd = 9) (by omega), if_neg (c := e.kd = 7) (by omega)]
  (repeat' split) <;> exact ⟨rfl, rfl⟩
theorem Far.go {L : List Ev} {z q : Pt} {k : Nat} (h : Far L z q k) (hk : (k : Int) ≤ z.la) (hl : k < L.length) : z = if (L[k]).th ≠ q.th then blkG q (L.drop (k + 1)) (k + 1) else if endB (L[k]).kd then noteP q k (L[k]) else blkG (noteP q k (L[k])) (L.drop (k + 1)) (k + 1) := by
  rcases h.2 with h2 | ⟨j, e, hj, he, h2, h3⟩
  · rw [List.drop_eq_getElem_cons hl, blkG] at h2; exact h2
  · rw [h2, noteP_la] at hk; omega
theorem Far.other {L : List Ev} {z q : Pt} {k : Nat} (h : Far L z q k) (hk : (k : Int) ≤ z.la) (hl : k < L.length) (ht : (L[k]).th ≠ q.th) : Far L z q (k + 1) := by
  have h2 := h.go hk hl
  rw [if_pos ht] at h2
  exact ⟨h.1, .inl h2⟩
theorem Far.on {L : List Ev} {z q : Pt} {k : Nat} (h : Far L z q k) (hk : (k : Int) ≤ z.la) (hl : k < L.length) (ht : (L[k]).th = q.th) (he : ¬ endB (L[k]).kd = true) : Far L z (noteP q k (L[k])) (k + 1) := by
  have h2 := h.go hk hl
  rw [if_neg (by simpa using ht), if_neg he] at h2
  refine ⟨⟨noteP_goes h.1.1 he, (noteP_still he).1.trans h.1.2.1, (noteP_still he).2.trans h.1.2.2.1, by rw [noteP_th]; exact h.1.2.2.2.1, by rw [noteP_fi]; exact h.1.2.2.2.2⟩, .inl h2⟩
theorem Far.stop {L : List Ev} {z q : Pt} {k : Nat} (h : Far L z q k) (hk : (k : Int) ≤ z.la) (hl : k < L.length) (ht : (L[k]).th = q.th) (he : endB (L[k]).kd = true) : Far L z q (k + 1) := by
  have h2 := h.go hk hl
  rw [if_neg (by simpa using ht), if_pos he] at h2
  exact ⟨h.1, .inr ⟨k, L[k], rfl, List.getElem?_eq_getElem hl, h2, he⟩⟩
theorem Far.done {L : List Ev} {z q : Pt} {ln : Nat} (h : Far L z q (ln + 1)) (hk : z.la = ln) : (z = q ∧ z.kd = 5) ∨ ∃ e, L[ln]? = some e ∧ z = noteP q ln e ∧ endB e.kd = true ∧ z.kd ≠ 5 := by
  rcases h.2 with h2 | ⟨j, e, hj, he, h2, h3⟩
  · left
    rcases blkG_la (L.drop (ln + 1)) q (ln + 1) with h3 | h3
    · rw [h3] at h2; exact ⟨h2, by rw [h2]; exact h.1.1⟩
    · rw [← h2, hk] at h3; omega
  · right
    obtain rfl : j = ln := by omega
    exact ⟨e, he, h2, h3, by rw [h2]; exact noteP_end h3⟩
set_option maxRecDepth 100000 in
set_option maxHeartbeats 8000000 in
theorem rblock_any (v : Value) (L : List Ev) (p : Nat) (hp : p < L.length) (h1 : (L[p]).kd = 1) (hL : L.length ≤ 65536) (w : World) (hv : EvsAt w v L) :
    Calls Tryd.prog 21 #[v, .int .i64 (p : Int)] w (BkPost (blkAt L p) w) := by
  have hwf := hv.wf
  have HV : Hid (∀ X, Keeps (fun _ => False) w X → EvsAt X v L) := fun X k => hv.keeps k
  have hmx : Tryd.prog.follows .mixedOrders = true := by kernel_rfl
  have k0 := (Keeps.refl (fun _ => False) w).alloc (.cells #[.int .i64 0, .int .i64 0, .int .i64 0, .int .i64 0, .int .u64 0, .bool false, .int .i64 0, .slice none 0 0, .slice none 0 0] 43)
  have b0 := (MapKept.heap_alloc w (.cells #[.int .i64 0, .int .i64 0, .int .i64 0, .int .i64 0, .int .u64 0, .bool false, .int .i64 0, .slice none 0 0, .slice none 0 0] 43)).1
  have RE := rend_any v L p hp h1 _ (HV.out _ k0)
  obtain ⟨a, cap, rfl, hcap⟩ := hv.els.shape
  have hla := blkAt_la hp
  have hb : blkAt L p = blkG (newP (L[p]) p) (L.drop (p + 1)) (p + 1) := by simp [blkAt, hp]
  generalize blkAt L p = z at *
  obtain ⟨ln, hln⟩ : ∃ n : Nat, z.la = n := ⟨z.la.toNat, by omega⟩
  obtain ⟨ov, hov⟩ : ∃ ov, ov = decide (z.kd ≠ 5) := ⟨_, rfl⟩
  rw [hln, ← hov] at RE
  have HO : Hid (ov = decide (z.kd ≠ 5) ∧ z.la = ln) := ⟨hov, hln⟩
  have hpl : p ≤ ln := by omega
  have hll : ln < L.length := by omega
  obtain ⟨th0, hth⟩ : ∃ t, t = (L[p]'hp).th := ⟨_, rfl⟩
  have HZ : Hid (Far L z ⟨th0, 5, p, p, 0, false, 0, [], [], p, false⟩ p ∧ z.th = th0 ∧ z.fi = p) := by
    have hzt : z.th = th0 := by rw [hb, blkG_th, newP_th, hth]
    have hzf : z.fi = p := by rw [hb, blkG_fi]; simp [newP, noteP_fi, freshP]
    refine ⟨⟨⟨rfl, rfl, rfl, hzt.symm, hzf.symm⟩, .inl ?_⟩, hzt, hzf⟩
    rw [List.drop_eq_getElem_cons hp, blkG, if_neg (by rw [hth]; simp), if_neg (by rw [h1]; decide), hb]
    congr 1
    simp [newP, noteP, freshP, h1, hth]
  obtain ⟨g, off, rfl, x0, x1, x2, x3, x4, x5⟩ := (HV.out _ k0).at p hp
  rw [← hth] at x0
  have hpi : (p : Int) < L.length := by omega
  have hp0 : (0 : Int) ≤ p := by omega
  clear hb hov hla hln x1 x2 x3 x4 x5 hth h1 hv
  go_enter Tryd.func21, Tryd.ntmps21
  go_wp2_with fail
  refine RE.mono ?_
  rintro ex w1 ⟨rfl, k1⟩
  have x0' := k1.cellB (fun f => f) x0
  have b1 := (k1.block _ (lt_of_block b0) (fun f => f)).trans b0
  have K1 := k0.trans k1
  clear RE k0 k1 b0 x0
  have e0 := World.new_ne w1 _ x0'
  go_wp2_with fail
  have BS : Bst w (w1.alloc (.cells #[.int .i64 th0, .int .i64 5, .int .i64 (p : Int), .int .i64 (ln : Int), .int .u64 0, .bool false, .int .i64 0, .slice none 0 0, .slice none 0 0] 43)) w1.heap.size (bkV th0 p ln 0 sl0 sl0) [] [] sl0 sl0 := by
    have ka := (Keeps.refl (fun _ => False) w1).alloc (.cells #[.int .i64 th0, .int .i64 5, .int .i64 (p : Int), .int .i64 (ln : Int), .int .u64 0, .bool false, .int .i64 0, .slice none 0 0, .slice none 0 0] 43)
    have hs : w1.heap.size + 1 ≤ (w1.alloc (.cells #[.int .i64 th0, .int .i64 5, .int .i64 (p : Int), .int .i64 (ln : Int), .int .u64 0, .bool false, .int .i64 0, .slice none 0 0, .slice none 0 0] 43)).heap.size := by simp
    exact ⟨K1.trans ka, lt_of_block b1, (ka.block _ (lt_of_block b1) (fun f => f)).trans b1, (MapKept.heap_alloc w1 _).1, OwnR.nilB _ _ _ _ _ hs, OwnR.nilB _ _ _ _ _ hs, fun g hg => by simp [sl0, Value.ownBlock] at hg⟩
  have hb0 : w.heap.size < w1.heap.size := lt_of_block b1
  generalize w1.alloc (.cells #[.int .i64 th0, .int .i64 5, .int .i64 (p : Int), .int .i64 (ln : Int), .int .u64 0, .bool false, .int .i64 0, .slice none 0 0, .slice none 0 0] 43) = W at *
  generalize w1.heap.size = b at *
  clear K1 b1 x0' e0 hp0 hpi hmx hcap
  go_loopw [9, 10, 11, 12] (fun u9 u10 u11 u12 wr => ∃ (k : Nat) (q : Pt) (r s : Sl), u9 = .int .i64 q.si ∧ u10 = .bool q.lk ∧ u11 = .int .i64 k ∧ p ≤ k ∧ k ≤ ln + 1 ∧ q.rs.length ≤ k ∧ q.ws.length ≤ k ∧ Hid (Far L z q k ∧ Bst w wr b (bkV th0 p ln q.nu r s) q.rs q.ws r s)) (fun _ _ u11 _ _ => ln + 1 - (intOf u11).toNat)
  case atStart => exact ⟨p, ⟨th0, 5, p, p, 0, false, 0, [], [], p, false⟩, sl0, sl0, rfl, rfl, rfl, Nat.le_refl _, by omega, by simp, by simp, ⟨HZ.out.1, BS⟩⟩
  case round =>
    clear BS
    obtain ⟨k, q, r, s, rfl, rfl, rfl, hpk, hk, hql, hqw, hh⟩ := hrel
    obtain ⟨hF, hB⟩ := hh.out
    obtain ⟨ra, rn, rc⟩ := r
    obtain ⟨sa, sn, sc⟩ := s
    have bx := hB.box
    unfold bkV at bx
    obtain ⟨d0, d1, d4, d5, d6, d7, d8⟩ := blk9 bx
    have hbl := lt_of_block bx
    have z4 := frozen_of_block bx 4
    have z7 := frozen_of_block bx 7
    have z8 := frozen_of_block bx 8
    by_cases hlt : k ≤ ln
    · have hki : (k : Int) ≤ (ln : Int) := by omega
      have hk0 : (0 : Int) ≤ k := by omega
      have hkl : k < L.length := by omega
      have hkL : (k : Int) < L.length := by omega
      obtain ⟨g', off', hgo, x0, x1, x2, x3, x4, x5⟩ := (HV.out wr hB.kp).at k hkl
      simp only [Option.some.injEq, Addr.mk.injEq, and_true] at hgo
      obtain ⟨rfl, rfl⟩ := hgo
      have hew := hwf _ (List.getElem_mem hkl)
      have hkz : (k : Int) ≤ z.la := by rw [HO.out.2]; exact hki
      have FO : Hid (∀ ht : (L[k]).th ≠ q.th, Far L z q (k + 1)) := fun ht => hF.other hkz hkl ht
      have FN : Hid (∀ (ht : (L[k]).th = q.th) (he : ¬ endB (L[k]).kd = true), Far L z (noteP q k (L[k])) (k + 1)) := fun ht he => hF.on hkz hkl ht he
      have FS : Hid (∀ (ht : (L[k]).th = q.th) (he : endB (L[k]).kd = true), Far L z q (k + 1)) := fun ht he => hF.stop hkz hkl ht he
      have HQ : Hid (q.kd = 5 ∧ q.wr = false ∧ q.er = 0 ∧ q.th = th0) := ⟨hF.1.1, hF.1.2.1, hF.1.2.2.1, hF.1.2.2.2.1.trans HZ.out.2.1⟩
      have HB : Hid (Bst w wr b (bkV th0 p ln q.nu ⟨ra, rn, rc⟩ ⟨sa, sn, sc⟩) q.rs q.ws ⟨ra, rn, rc⟩ ⟨sa, sn, sc⟩) := hB
      have hlb := hB.lt
      have eg := World.new_ne wr _ x0
      clear hF hB hh bx hkz hwf
      generalize hev : L[k]'hkl = e at *
      clear hev
      obtain ⟨th, kd, ad, wd, own, er⟩ := e
      dsimp only at x0 x1 x2 x3 x4 x5 hew
      obtain ⟨-, -, had, hwd, -⟩ := hew
      dsimp only at hwd
      have hwd2 : IntKind.u64.wrap (Int.tdiv wd 2) = wd / 2 := by
        rw [IntKind.wrap_u64, Int.tdiv_eq_ediv_of_nonneg hwd.1]; omega
      have hwk : IntKind.i64.wrap ((k : Int) + 1) = (k : Int) + 1 := by rw [IntKind.wrap_i64]; omega
      have KA : Hid (∀ X : World, Keeps (fun _ => False) X (X.alloc (.cells #[.int .i64 th, .int .i64 kd, .int .u64 ad, .int .u64 wd, .bool own, .int .i64 er] 50))) := fun X => (Keeps.refl _ X).alloc _
      by_cases ht : th = th0
      · subst ht
        have ht2 := HQ.out.2.2.2
        by_cases h14 : kd = 1 ∨ kd = 4
        · have hE : ¬ endB kd = true := by unfold endB; simp; omega
          have F2 := FN.out ht2.symm hE
          have hn : noteP q k ⟨th, kd, ad, wd, own, er⟩ = { q with la := k, kd := 5, nu := wd / 2, si := k } := by unfold noteP; rw [if_pos h14]
          rw [hn] at F2
          have HF : Hid (Far L z { q with la := k, kd := 5, nu := wd / 2, si := k } (k + 1)) := F2
          clear F2 hn hE FO FN FS
          rcases h14 with rfl | rfl
          all_goals
            go_wp2_with fail
            go_roundw
            · exact ⟨k + 1, { q with la := k, kd := 5, nu := wd / 2, si := k }, ⟨ra, rn, rc⟩, ⟨sa, sn, sc⟩, rfl, rfl, by simp, by omega, by omega, by dsimp only; omega, by dsimp only; omega, ⟨HF.out, (HB.out.set 4 (.int .u64 (wd / 2))).up (KA.out _)⟩⟩
            · simp [intOf]; omega
        · obtain ⟨n1, n4⟩ := not_or.1 h14
          by_cases h2 : kd = 2
          · subst h2
            have hE : ¬ endB 2 = true := by decide
            cases own
            · have F2 := FN.out ht2.symm hE
              have hn : noteP q k ⟨th, 2, ad, wd, false, er⟩ = { q with la := k, rs := q.rs ++ [(ad, wd)] } := by simp [noteP]
              rw [hn] at F2
              have HF : Hid (Far L z { q with la := k, rs := q.rs ++ [(ad, wd)] } (k + 1)) := F2
              have B1 := HB.out.up (KA.out wr)
              obtain ⟨v', w3, r1, r2, r3⟩ := B1.rd.push en_len en_one (by decide) Tryd.underlying41 info_en rfl (by decide) (ty := 41) (ad, wd) (cs := #[.int .u64 ad, .int .u64 wd, .bool false]) rfl (by omega)
              rw [show (wr.alloc (.cells #[.int .i64 th, .int .i64 2, .int .u64 ad, .int .u64 wd, .bool false, .int .i64 er] 50)).heap.size = wr.heap.size + 1 by simp] at r1
              obtain ⟨⟨ya, yn, yc⟩, rfl, -⟩ := sl_of r2
              have B2 := B1.reads ⟨ya, yn, yc⟩ _ r2 r3
              have bx2 := B2.box
              unfold bkV at bx2
              obtain ⟨t0, t1, t4, t5, t6, t7, t8⟩ := blk9 bx2
              have u7 := frozen_of_block bx2 7
              have HB2 : Hid (Bst w (w3.setCell ⟨b, 7, none⟩ (.slice ya yn yc)) b (bkV th p ln q.nu ⟨ya, yn, yc⟩ ⟨sa, sn, sc⟩) (q.rs ++ [(ad, wd)]) q.ws ⟨ya, yn, yc⟩ ⟨sa, sn, sc⟩) := B2.set 7 (.slice ya yn yc)
              have HA : Hid (_ = _) := r1
              clear F2 hn hE FO FN FS r1 r2 r3 B1 B2 bx2
              go_wp2_with (at_builtin; refine wpList_append_run rfl _ _ 41 rfl rfl rfl HA.out ?_)
              go_roundw
              · exact ⟨k + 1, { q with la := k, rs := q.rs ++ [(ad, wd)] }, ⟨ya, yn, yc⟩, ⟨sa, sn, sc⟩, rfl, rfl, by simp, by omega, by omega, by simp; omega, by simp; omega, ⟨HF.out, HB2.out⟩⟩
              · simp [intOf]; omega
            · have F2 := FN.out ht2.symm hE
              have hn : noteP q k ⟨th, 2, ad, wd, true, er⟩ = { q with la := k } := by simp [noteP]
              rw [hn] at F2
              have HF : Hid (Far L z { q with la := k } (k + 1)) := F2
              clear F2 hn hE FO FN FS
              go_wp2_with fail
              go_roundw
              · exact ⟨k + 1, { q with la := k }, ⟨ra, rn, rc⟩, ⟨sa, sn, sc⟩, rfl, rfl, by simp, by omega, by omega, by dsimp only; omega, by dsimp only; omega, ⟨HF.out, HB.out.up (KA.out _)⟩⟩
              · simp [intOf]; omega
          · by_cases h3 : kd = 3
            · subst h3
              have hE : ¬ endB 3 = true := by decide
              have F2 := FN.out ht2.symm hE
              have hn : noteP q k ⟨th, 3, ad, wd, own, er⟩ = { q with la := k, ws := q.ws ++ [(ad, wd)] } := by simp [noteP]
              rw [hn] at F2
              have HF : Hid (Far L z { q with la := k, ws := q.ws ++ [(ad, wd)] } (k + 1)) := F2
              have B1 := HB.out.up (KA.out wr)
              obtain ⟨v', w3, r1, r2, r3⟩ := B1.wt.push en_len en_one (by decide) Tryd.underlying41 info_en rfl (by decide) (ty := 41) (ad, wd) (cs := #[.int .u64 ad, .int .u64 wd, .bool false]) rfl (by omega)
              rw [show (wr.alloc (.cells #[.int .i64 th, .int .i64 3, .int .u64 ad, .int .u64 wd, .bool own, .int .i64 er] 50)).heap.size = wr.heap.size + 1 by simp] at r1
              obtain ⟨⟨ya, yn, yc⟩, rfl, -⟩ := sl_of r2
              have B2 := B1.writes ⟨ya, yn, yc⟩ _ r2 r3
              have bx2 := B2.box
              unfold bkV at bx2
              obtain ⟨t0, t1, t4, t5, t6, t7, t8⟩ := blk9 bx2
              have u7 := frozen_of_block bx2 8
              have HB2 : Hid (Bst w (w3.setCell ⟨b, 8, none⟩ (.slice ya yn yc)) b (bkV th p ln q.nu ⟨ra, rn, rc⟩ ⟨ya, yn, yc⟩) q.rs (q.ws ++ [(ad, wd)]) ⟨ra, rn, rc⟩ ⟨ya, yn, yc⟩) := B2.set 8 (.slice ya yn yc)
              have HA : Hid (_ = _) := r1
              clear F2 hn hE FO FN FS r1 r2 r3 B1 B2 bx2
              go_wp2_with (at_builtin; refine wpList_append_run rfl _ _ 41 rfl rfl rfl HA.out ?_)
              go_roundw
              · exact ⟨k + 1, { q with la := k, ws := q.ws ++ [(ad, wd)] }, ⟨ra, rn, rc⟩, ⟨ya, yn, yc⟩, rfl, rfl, by simp, by omega, by omega, by simp; omega, by simp; omega, ⟨HF.out, HB2.out⟩⟩
              · simp [intOf]; omega
            · by_cases h5 : kd = 5
              · subst h5
                have F2 := FN.out ht2.symm (show ¬ endB 5 = true by decide)
                have hn : noteP q k ⟨th, 5, ad, wd, own, er⟩ = { q with la := k, lk := true } := by simp [noteP]
                rw [hn] at F2
                have HF : Hid (Far L z { q with la := k, lk := true } (k + 1)) := F2
                clear F2 hn FO FN FS
                go_wp2_with fail
                go_roundw
                · exact ⟨k + 1, { q with la := k, lk := true }, ⟨ra, rn, rc⟩, ⟨sa, sn, sc⟩, rfl, rfl, by simp, by omega, by omega, by dsimp only; omega, by dsimp only; omega, ⟨HF.out, HB.out.up (KA.out _)⟩⟩
                · simp [intOf]; omega
              · have b1 : (kd == 1) = false := by rw [beq_eq_false_iff_ne]; exact n1
                have b4 : (kd == 4) = false := by rw [beq_eq_false_iff_ne]; exact n4
                have b2 : (kd == 2) = false := by rw [beq_eq_false_iff_ne]; exact h2
                have b3 : (kd == 3) = false := by rw [beq_eq_false_iff_ne]; exact h3
                have b5 : (kd == 5) = false := by rw [beq_eq_false_iff_ne]; exact h5
                by_cases hE : endB kd = true
                · have HF : Hid (Far L z q (k + 1)) := FS.out ht2.symm hE
                  clear hE FO FN FS h14 n1 n4 h2 h3 h5
                  go_wp2_with fail
                  go_roundw
                  · exact ⟨k + 1, q, ⟨ra, rn, rc⟩, ⟨sa, sn, sc⟩, rfl, rfl, by simp, by omega, by omega, by omega, by omega, ⟨HF.out, HB.out.up (KA.out _)⟩⟩
                  · simp [intOf]; omega
                · have F2 := FN.out ht2.symm hE
                  have hn : noteP q k ⟨th, kd, ad, wd, own, er⟩ = { q with la := k } := by
                    unfold endB at hE
                    simp only [decide_eq_true_eq] at hE
                    unfold noteP
                    rw [if_neg h14, if_neg h2, if_neg h3, if_neg h5, if_neg (c := kd = 6) (by omega), if_neg (c := kd = 8) (by omega), if_neg (c := kd = 9) (by omega), if_neg (c := kd = 7) (by omega)]
                  rw [hn] at F2
                  have HF : Hid (Far L z { q with la := k } (k + 1)) := F2
                  clear F2 hn hE FO FN FS h14 n1 n4 h2 h3 h5
                  go_wp2_with fail
                  go_roundw
                  · exact ⟨k + 1, { q with la := k }, ⟨ra, rn, rc⟩, ⟨sa, sn, sc⟩, rfl, rfl, by simp, by omega, by omega, by dsimp only; omega, by dsimp only; omega, ⟨HF.out, HB.out.up (KA.out _)⟩⟩
                  · simp [intOf]; omega
      · have HF : Hid (Far L z q (k + 1)) := FO.out (by rw [HQ.out.2.2.2]; exact ht)
        clear FO FN FS
        go_wp2_with fail
        go_roundw
        · exact ⟨k + 1, q, ⟨ra, rn, rc⟩, ⟨sa, sn, sc⟩, rfl, rfl, by simp, by omega, by omega, by omega, by omega, ⟨HF.out, HB.out.up (KA.out _)⟩⟩
        · simp [intOf]; omega
    · obtain rfl : k = ln + 1 := by omega
      have hz := hF.done HO.out.2
      have hq := hF.1
      have hth := HZ.out.2.1
      have hfi := HZ.out.2.2
      have kst : ∀ (X : World) (cs : Array Value), Keeps (fun q => q = w.heap.size) X (X.setRow w.heap.size cs) := fun X cs => row_keeps X w.heap.size cs
      have hov := HO.out.1
      have hln := HO.out.2
      have hki : ¬ ((ln : Int) + 1 ≤ (ln : Int)) := by omega
      rcases hz with ⟨hz, hz5⟩ | ⟨e, hLe, hz, hE, hz5⟩
      · obtain rfl : ov = false := by rw [hov]; simp [hz5]
        have hla : q.la = ln := by rw [← hz]; exact hln
        have CSE : (Bx.cb ⟨q, ⟨ra, rn, rc⟩, ⟨sa, sn, sc⟩⟩).toArray = #[.int .i64 th0, .int .i64 5, .int .i64 (p : Int), .int .i64 (ln : Int), .int .u64 q.nu, .bool false, .int .i64 0, .slice ra rn rc, .slice sa sn sc] := by
          simp only [Bx.cb, Sl.v]
          rw [hq.1, hq.2.1, hq.2.2.1, hla, hq.2.2.2.1.trans hth, hq.2.2.2.2.trans hfi]
        subst hz
        have HP : Hid (∀ X : World, Keeps (fun q => q = w.heap.size) wr X → BkPost z w (.returned (.tuple #[.agg #[.int .i64 th0, .int .i64 5, .int .i64 (p : Int), .int .i64 (ln : Int), .int .u64 z.nu, .bool false, .int .i64 0, .slice ra rn rc, .slice sa sn sc], .int .i64 z.si])) X) := fun X kx => by
          have := hB.post (z := z) kx
          rw [CSE] at this; exact this
        have BB := hB
        unfold bkV at BB
        clear hF hh hz5 hq hth hfi hov hln CSE HZ HO hB bx
        go_wp2_with (first
          | (refine wpList_load_row rfl 43 _ rfl b rfl 43 #[.int .i64 th0, .int .i64 5, .int .i64 (p : Int), .int .i64 (ln : Int), .int .u64 z.nu, .bool false, .int .i64 0, .slice ra rn rc, .slice sa sn sc] (0, 0) _ BB.box Tryd.underlying43 rfl size_blk ?_)
          | (refine wpList_store_row rfl 43 _ _ rfl w.heap.size #[.int .i64 th0, .int .i64 5, .int .i64 (p : Int), .int .i64 (ln : Int), .int .u64 z.nu, .bool false, .int .i64 0, .slice ra rn rc, .slice sa sn sc] rfl rfl 43 _ BB.res size_blk rfl (by simp [Value.oneCell']) ?_))
        refine bodyPost_ret (blk_ret rfl _ _ w.heap.size #[.int .i64 th0, .int .i64 5, .int .i64 (p : Int), .int .i64 (ln : Int), .int .u64 z.nu, .bool false, .int .i64 0, .slice ra rn rc, .slice sa sn sc] (setRow_heap _ _ _ _ _ _ BB.res) rfl rfl) rfl ?_
        exact HP.out _ (kst _ _)
      · obtain rfl : ov = true := by rw [hov]; simpa using hz5
        obtain ⟨g', off', hgo, x0, x1, x2, x3, x4, x5⟩ := (HV.out wr hB.kp).at ln hll
        simp only [Option.some.injEq, Addr.mk.injEq, and_true] at hgo
        obtain ⟨rfl, rfl⟩ := hgo
        rw [List.getElem?_eq_getElem hll] at hLe
        cases hLe
        generalize L[ln]'hll = e at *
        obtain ⟨eth, ekd, ead, ewd, eown, eer⟩ := e
        dsimp only at x0 x1 x2 x3 x4 x5 hE
        have hlL : (ln : Int) < L.length := by omega
        have hl0 : (0 : Int) ≤ ln := by omega
        have z1 := frozen_of_block bx 1
        have z5 := frozen_of_block bx 5
        have z6 := frozen_of_block bx 6
        have hE2 : ekd = 6 ∨ ekd = 7 ∨ ekd = 8 ∨ ekd = 9 := by
          unfold endB at hE
          simp only [decide_eq_true_eq] at hE
          omega
        clear hE
        have hgb : ¬ g = b := by
          obtain ⟨g', off', hgo, y0, -⟩ := (HV.out w (Keeps.refl _ _)).at ln hll
          simp only [Option.some.injEq, Addr.mk.injEq, and_true] at hgo
          obtain ⟨rfl, rfl⟩ := hgo
          have h1 : g < w.heap.size := World.block_lt_of_cell? _ _ y0
          have h2 := hB.lt
          omega
        · rcases hE2 with rfl | rfl | rfl | rfl
          · have BB : Bst w (((wr.setCell ⟨b, 1, none⟩ (.int .i64 1)).setCell ⟨b, 5, none⟩ (.bool q.lk)).setCell ⟨b, 4, none⟩ (.int .u64 ewd)) b #[.int .i64 th0, .int .i64 1, .int .i64 (p : Int), .int .i64 (ln : Int), .int .u64 ewd, .bool q.lk, .int .i64 0, .slice ra rn rc, .slice sa sn sc] q.rs q.ws ⟨ra, rn, rc⟩ ⟨sa, sn, sc⟩ := ((hB.set 1 (.int .i64 1)).set 5 (.bool q.lk)).set 4 (.int .u64 ewd)
            have CSE : (Bx.cb ⟨z, ⟨ra, rn, rc⟩, ⟨sa, sn, sc⟩⟩).toArray = #[.int .i64 th0, .int .i64 1, .int .i64 (p : Int), .int .i64 (ln : Int), .int .u64 ewd, .bool q.lk, .int .i64 0, .slice ra rn rc, .slice sa sn sc] ∧ z.si = q.si ∧ z.rs = q.rs ∧ z.ws = q.ws := by
              rw [hz, show noteP q ln ⟨eth, 6, ead, ewd, eown, eer⟩ = { q with la := ln, kd := 1, nu := ewd, wr := q.lk } by simp [noteP]]
              simp only [Bx.cb, Sl.v]
              rw [hq.2.2.2.1.trans hth, hq.2.2.2.2.trans hfi]
              simp [hq.2.2.1]
            have HP : Hid (∀ X : World, Keeps (fun q => q = w.heap.size) (((wr.setCell ⟨b, 1, none⟩ (.int .i64 1)).setCell ⟨b, 5, none⟩ (.bool q.lk)).setCell ⟨b, 4, none⟩ (.int .u64 ewd)) X → BkPost z w (.returned (.tuple #[.agg #[.int .i64 th0, .int .i64 1, .int .i64 (p : Int), .int .i64 (ln : Int), .int .u64 ewd, .bool q.lk, .int .i64 0, .slice ra rn rc, .slice sa sn sc], .int .i64 q.si])) X) := fun X kx => by
              have := Bst.post (z := z) (cs := #[.int .i64 th0, .int .i64 1, .int .i64 (p : Int), .int .i64 (ln : Int), .int .u64 ewd, .bool q.lk, .int .i64 0, .slice ra rn rc, .slice sa sn sc]) (by rw [CSE.2.2.1, CSE.2.2.2]; exact BB) kx
              rw [CSE.1, CSE.2.1] at this; exact this
            clear hF hh hz5 hq hth hfi hov hln CSE HZ HO hB bx hz
            go_wp2_with (first
              | (refine wpList_load_row rfl 43 _ rfl b rfl 43 #[.int .i64 th0, .int .i64 1, .int .i64 (p : Int), .int .i64 (ln : Int), .int .u64 ewd, .bool q.lk, .int .i64 0, .slice ra rn rc, .slice sa sn sc] (0, 0) _ BB.box Tryd.underlying43 rfl size_blk ?_)
              | (refine wpList_store_row rfl 43 _ _ rfl w.heap.size #[.int .i64 th0, .int .i64 1, .int .i64 (p : Int), .int .i64 (ln : Int), .int .u64 ewd, .bool q.lk, .int .i64 0, .slice ra rn rc, .slice sa sn sc] rfl rfl 43 _ BB.res size_blk rfl (by simp [Value.oneCell']) ?_))
            refine bodyPost_ret (blk_ret rfl _ _ w.heap.size #[.int .i64 th0, .int .i64 1, .int .i64 (p : Int), .int .i64 (ln : Int), .int .u64 ewd, .bool q.lk, .int .i64 0, .slice ra rn rc, .slice sa sn sc] (setRow_heap _ _ _ _ _ _ BB.res) rfl rfl) rfl ?_
            exact HP.out _ (kst _ _)
          · have BB : Bst w (wr.setCell ⟨b, 1, none⟩ (.int .i64 4)) b #[.int .i64 th0, .int .i64 4, .int .i64 (p : Int), .int .i64 (ln : Int), .int .u64 q.nu, .bool false, .int .i64 0, .slice ra rn rc, .slice sa sn sc] q.rs q.ws ⟨ra, rn, rc⟩ ⟨sa, sn, sc⟩ := hB.set 1 (.int .i64 4)
            have CSE : (Bx.cb ⟨z, ⟨ra, rn, rc⟩, ⟨sa, sn, sc⟩⟩).toArray = #[.int .i64 th0, .int .i64 4, .int .i64 (p : Int), .int .i64 (ln : Int), .int .u64 q.nu, .bool false, .int .i64 0, .slice ra rn rc, .slice sa sn sc] ∧ z.si = q.si ∧ z.rs = q.rs ∧ z.ws = q.ws := by
              rw [hz, show noteP q ln ⟨eth, 7, ead, ewd, eown, eer⟩ = { q with la := ln, kd := 4 } by simp [noteP]]
              simp only [Bx.cb, Sl.v]
              rw [hq.2.2.2.1.trans hth, hq.2.2.2.2.trans hfi]
              simp [hq.2.1, hq.2.2.1]
            have HP : Hid (∀ X : World, Keeps (fun q => q = w.heap.size) (wr.setCell ⟨b, 1, none⟩ (.int .i64 4)) X → BkPost z w (.returned (.tuple #[.agg #[.int .i64 th0, .int .i64 4, .int .i64 (p : Int), .int .i64 (ln : Int), .int .u64 q.nu, .bool false, .int .i64 0, .slice ra rn rc, .slice sa sn sc], .int .i64 q.si])) X) := fun X kx => by
              have := Bst.post (z := z) (cs := #[.int .i64 th0, .int .i64 4, .int .i64 (p : Int), .int .i64 (ln : Int), .int .u64 q.nu, .bool false, .int .i64 0, .slice ra rn rc, .slice sa sn sc]) (by rw [CSE.2.2.1, CSE.2.2.2]; exact BB) kx
              rw [CSE.1, CSE.2.1] at this; exact this
            clear hF hh hz5 hq hth hfi hov hln CSE HZ HO hB bx hz
            go_wp2_with (first
              | (refine wpList_load_row rfl 43 _ rfl b rfl 43 #[.int .i64 th0, .int .i64 4, .int .i64 (p : Int), .int .i64 (ln : Int), .int .u64 q.nu, .bool false, .int .i64 0, .slice ra rn rc, .slice sa sn sc] (0, 0) _ BB.box Tryd.underlying43 rfl size_blk ?_)
              | (refine wpList_store_row rfl 43 _ _ rfl w.heap.size #[.int .i64 th0, .int .i64 4, .int .i64 (p : Int), .int .i64 (ln : Int), .int .u64 q.nu, .bool false, .int .i64 0, .slice ra rn rc, .slice sa sn sc] rfl rfl 43 _ BB.res size_blk rfl (by simp [Value.oneCell']) ?_))
            refine bodyPost_ret (blk_ret rfl _ _ w.heap.size #[.int .i64 th0, .int .i64 4, .int .i64 (p : Int), .int .i64 (ln : Int), .int .u64 q.nu, .bool false, .int .i64 0, .slice ra rn rc, .slice sa sn sc] (setRow_heap _ _ _ _ _ _ BB.res) rfl rfl) rfl ?_
            exact HP.out _ (kst _ _)
          · have BB : Bst w (wr.setCell ⟨b, 1, none⟩ (.int .i64 2)) b #[.int .i64 th0, .int .i64 2, .int .i64 (p : Int), .int .i64 (ln : Int), .int .u64 q.nu, .bool false, .int .i64 0, .slice ra rn rc, .slice sa sn sc] q.rs q.ws ⟨ra, rn, rc⟩ ⟨sa, sn, sc⟩ := hB.set 1 (.int .i64 2)
            have CSE : (Bx.cb ⟨z, ⟨ra, rn, rc⟩, ⟨sa, sn, sc⟩⟩).toArray = #[.int .i64 th0, .int .i64 2, .int .i64 (p : Int), .int .i64 (ln : Int), .int .u64 q.nu, .bool false, .int .i64 0, .slice ra rn rc, .slice sa sn sc] ∧ z.si = q.si ∧ z.rs = q.rs ∧ z.ws = q.ws := by
              rw [hz, show noteP q ln ⟨eth, 8, ead, ewd, eown, eer⟩ = { q with la := ln, kd := 2 } by simp [noteP]]
              simp only [Bx.cb, Sl.v]
              rw [hq.2.2.2.1.trans hth, hq.2.2.2.2.trans hfi]
              simp [hq.2.1, hq.2.2.1]
            have HP : Hid (∀ X : World, Keeps (fun q => q = w.heap.size) (wr.setCell ⟨b, 1, none⟩ (.int .i64 2)) X → BkPost z w (.returned (.tuple #[.agg #[.int .i64 th0, .int .i64 2, .int .i64 (p : Int), .int .i64 (ln : Int), .int .u64 q.nu, .bool false, .int .i64 0, .slice ra rn rc, .slice sa sn sc], .int .i64 q.si])) X) := fun X kx => by
              have := Bst.post (z := z) (cs := #[.int .i64 th0, .int .i64 2, .int .i64 (p : Int), .int .i64 (ln : Int), .int .u64 q.nu, .bool false, .int .i64 0, .slice ra rn rc, .slice sa sn sc]) (by rw [CSE.2.2.1, CSE.2.2.2]; exact BB) kx
              rw [CSE.1, CSE.2.1] at this; exact this
            clear hF hh hz5 hq hth hfi hov hln CSE HZ HO hB bx hz
            go_wp2_with (first
              | (refine wpList_load_row rfl 43 _ rfl b rfl 43 #[.int .i64 th0, .int .i64 2, .int .i64 (p : Int), .int .i64 (ln : Int), .int .u64 q.nu, .bool false, .int .i64 0, .slice ra rn rc, .slice sa sn sc] (0, 0) _ BB.box Tryd.underlying43 rfl size_blk ?_)
              | (refine wpList_store_row rfl 43 _ _ rfl w.heap.size #[.int .i64 th0, .int .i64 2, .int .i64 (p : Int), .int .i64 (ln : Int), .int .u64 q.nu, .bool false, .int .i64 0, .slice ra rn rc, .slice sa sn sc] rfl rfl 43 _ BB.res size_blk rfl (by simp [Value.oneCell']) ?_))
            refine bodyPost_ret (blk_ret rfl _ _ w.heap.size #[.int .i64 th0, .int .i64 2, .int .i64 (p : Int), .int .i64 (ln : Int), .int .u64 q.nu, .bool false, .int .i64 0, .slice ra rn rc, .slice sa sn sc] (setRow_heap _ _ _ _ _ _ BB.res) rfl rfl) rfl ?_
            exact HP.out _ (kst _ _)
          · have BB : Bst w ((wr.setCell ⟨b, 1, none⟩ (.int .i64 3)).setCell ⟨b, 6, none⟩ (.int .i64 eer)) b #[.int .i64 th0, .int .i64 3, .int .i64 (p : Int), .int .i64 (ln : Int), .int .u64 q.nu, .bool false, .int .i64 eer, .slice ra rn rc, .slice sa sn sc] q.rs q.ws ⟨ra, rn, rc⟩ ⟨sa, sn, sc⟩ := (hB.set 1 (.int .i64 3)).set 6 (.int .i64 eer)
            have CSE : (Bx.cb ⟨z, ⟨ra, rn, rc⟩, ⟨sa, sn, sc⟩⟩).toArray = #[.int .i64 th0, .int .i64 3, .int .i64 (p : Int), .int .i64 (ln : Int), .int .u64 q.nu, .bool false, .int .i64 eer, .slice ra rn rc, .slice sa sn sc] ∧ z.si = q.si ∧ z.rs = q.rs ∧ z.ws = q.ws := by
              rw [hz, show noteP q ln ⟨eth, 9, ead, ewd, eown, eer⟩ = { q with la := ln, kd := 3, er := eer } by simp [noteP]]
              simp only [Bx.cb, Sl.v]
              rw [hq.2.2.2.1.trans hth, hq.2.2.2.2.trans hfi]
              simp [hq.2.1]
            have HP : Hid (∀ X : World, Keeps (fun q => q = w.heap.size) ((wr.setCell ⟨b, 1, none⟩ (.int .i64 3)).setCell ⟨b, 6, none⟩ (.int .i64 eer)) X → BkPost z w (.returned (.tuple #[.agg #[.int .i64 th0, .int .i64 3, .int .i64 (p : Int), .int .i64 (ln : Int), .int .u64 q.nu, .bool false, .int .i64 eer, .slice ra rn rc, .slice sa sn sc], .int .i64 q.si])) X) := fun X kx => by
              have := Bst.post (z := z) (cs := #[.int .i64 th0, .int .i64 3, .int .i64 (p : Int), .int .i64 (ln : Int), .int .u64 q.nu, .bool false, .int .i64 eer, .slice ra rn rc, .slice sa sn sc]) (by rw [CSE.2.2.1, CSE.2.2.2]; exact BB) kx
              rw [CSE.1, CSE.2.1] at this; exact this
            clear hF hh hz5 hq hth hfi hov hln CSE HZ HO hB bx hz
            go_wp2_with (first
              | (refine wpList_load_row rfl 43 _ rfl b rfl 43 #[.int .i64 th0, .int .i64 3, .int .i64 (p : Int), .int .i64 (ln : Int), .int .u64 q.nu, .bool false, .int .i64 eer, .slice ra rn rc, .slice sa sn sc] (0, 0) _ BB.box Tryd.underlying43 rfl size_blk ?_)
              | (refine wpList_store_row rfl 43 _ _ rfl w.heap.size #[.int .i64 th0, .int .i64 3, .int .i64 (p : Int), .int .i64 (ln : Int), .int .u64 q.nu, .bool false, .int .i64 eer, .slice ra rn rc, .slice sa sn sc] rfl rfl 43 _ BB.res size_blk rfl (by simp [Value.oneCell']) ?_))
            refine bodyPost_ret (blk_ret rfl _ _ w.heap.size #[.int .i64 th0, .int .i64 3, .int .i64 (p : Int), .int .i64 (ln : Int), .int .u64 q.nu, .bool false, .int .i64 eer, .slice ra rn rc, .slice sa sn sc] (setRow_heap _ _ _ _ _ _ BB.res) rfl rfl) rfl ?_
            exact HP.out _ (kst _ _)
end Go.Proofs.YtjkileijkgbndaaDoor
