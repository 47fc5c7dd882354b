
/- A walk of the document's try (package parleyref13). No statement of the seat is proved here. -/
import Derived.Test.YtjmmjkoloioddaaDoorEvDi
import Derived.Test.YtjmmjkoloioddaaDoorM24EvDd
import Derived.Test.YtjmmjkoloioddaaDoorM09WiF
namespace Go.Proofs.YtjmmjkoloioddaaDoor
open Go.RowKit Go.Shelf

theorem size_try : (Tryd.prog.info? 38).map (·.size) = some 7 := by kernel_rfl
theorem try_ret {fn : Func} {p : Tmp} (h : fn.results = #[.cell p 38]) (tmps : Array Value) (w : World) (b : Nat) (cs : Array Value) (hb : w.heap[b]? = some (.cells cs 38 (0, 0))) (hs : cs.size = 7)
    (hp : tmps.getD p undef = .pointer (some ⟨b, 0, none⟩)) : (results fn tmps).run Tryd.prog w = .ok (.agg cs) w :=
  results_cell_row h tmps w b 38 cs (0, 0) _ hp hb Tryd.underlying38 rfl (by rw [size_try, hs])
def tyV (t : Ty) : Array Value := #[.int .i64 t.th, .int .i64 t.fi, .int .i64 t.la, .int .u64 t.sn, .int .i64 t.how, .int .i64 t.rd, .int .i64 t.wr]
theorem ty_size (t : Ty) : (Tryd.prog.info? 38).map (·.size) = some (tyV t).size := size_try
theorem ty_all (t : Ty) : (tyV t).all (·.oneCell') = true := by simp [tyV, Value.oneCell']
theorem blk7 {w : World} {g : Nat} {a b c d e f x : Value} {t : TypeId} {fr : Nat × Nat} (h : w.heap[g]? = some (.cells #[a, b, c, d, e, f, x] t fr)) : w.cell? ⟨g, 0, none⟩ = some a ∧ w.cell? ⟨g, 1, none⟩ = some b ∧ w.cell? ⟨g, 2, none⟩ = some c ∧ w.cell? ⟨g, 3, none⟩ = some d ∧ w.cell? ⟨g, 4, none⟩ = some e ∧ w.cell? ⟨g, 5, none⟩ = some f ∧ w.cell? ⟨g, 6, none⟩ = some x :=
  ⟨by rw [cell_of_block h]; rfl, by rw [cell_of_block h]; rfl, by rw [cell_of_block h]; rfl, by rw [cell_of_block h]; rfl, by rw [cell_of_block h]; rfl, by rw [cell_of_block h]; rfl, by rw [cell_of_block h]; rfl⟩
set_option maxRecDepth 100000 in
set_option maxHeartbeats 16000000 in
theorem rtry_any (v : Value) (L : List Ev) (p : Nat) (hp : p < L.length) (w : World) (hv : EvsAt w v L) :
    Calls Tryd.prog 38 #[v, .int .i64 (p : Int)] w fun ex w' => ex = .returned (.agg (tyV (tryG (newT (L[p]) p) (L.drop (p + 1)) (p + 1)))) ∧ Keeps (fun _ => False) w w' := by
  have hbig := hv.big
  have HV : Hid (∀ X, Keeps (fun _ => False) w X → EvsAt X v L) := fun X k => hv.keeps k
  obtain ⟨a, cap, rfl, hcap⟩ := hv.els.shape
  clear hv
  have k0 := (Keeps.refl (fun _ => False) w).alloc (.cells (tyV ty0) 38)
  have b0 := (MapKept.heap_alloc w (.cells (tyV ty0) 38)).1
  have hs0 : (w.alloc (.cells (tyV ty0) 38)).heap.size = w.heap.size + 1 := by simp
  obtain ⟨g, off, rfl, x0, x1, x2, x3, x4, x5⟩ := (HV.out _ k0).at p hp
  have hpi : (p : Int) < L.length := by omega
  have hp0 : (0 : Int) ≤ p := by omega
  have HT : Hid (∃ z, z = tryG (newT (L[p]) p) (L.drop (p + 1)) (p + 1)) := ⟨_, rfl⟩
  obtain ⟨z, hz⟩ := HT.out
  rw [← hz]
  have HZ : Hid (z = tryG (newT (L[p]'hp) p) (L.drop (p + 1)) (p + 1)) := hz
  clear hz HT
  generalize hev : L[p]'hp = e0 at *
  clear hev
  obtain ⟨th0, kd0, ad0, wd0, own0, er0⟩ := e0
  dsimp only at x0 x1 x2 x3 x4 x5
  unfold newT at HZ
  dsimp only at HZ
  have hS0 : (w.alloc (.cells (tyV ty0) 38)).cell? ⟨g, off + p * 6, none⟩ = some (.int .i64 th0) ∧ (w.alloc (.cells (tyV ty0) 38)).cell? ⟨g, off + p * 6 + 3, none⟩ = some (.int .u64 wd0) := ⟨x0, x3⟩
  have e0 := World.new_ne (w.alloc (.cells (tyV ty0) 38)) _ x0
  unfold tyV ty0 at *
  dsimp only at *
  go_enter Tryd.func38, Tryd.ntmps38
  go_wp2_with fail
  go_region_held3 (fun W : World => W.cell? ⟨g, off + p * 6, none⟩ = some (.int .i64 th0) ∧ W.cell? ⟨g, off + p * 6 + 3, none⟩ = some (.int .u64 wd0)) (first | assumption | (exact hS0) | go_keep) (fail)
  have hY0 : (((w.alloc (.cells #[.int .i64 0, .int .i64 0, .int .i64 0, .int .u64 0, .int .i64 0, .int .i64 0, .int .i64 0] 38)).alloc (.cells #[.int .i64 th0, .int .i64 (p : Int), .int .i64 (p : Int), .int .u64 wd0, .int .i64 0, .int .i64 0, .int .i64 0] 38)).drew).heap[w.heap.size]? = some (.cells #[.int .i64 0, .int .i64 0, .int .i64 0, .int .u64 0, .int .i64 0, .int .i64 0, .int .i64 0] 38 (0, 0)) := (((Keeps.refl (fun _ => False) (w.alloc (.cells #[.int .i64 0, .int .i64 0, .int .i64 0, .int .u64 0, .int .i64 0, .int .i64 0, .int .i64 0] 38))).alloc (.cells #[.int .i64 th0, .int .i64 (p : Int), .int .i64 (p : Int), .int .u64 wd0, .int .i64 0, .int .i64 0, .int .i64 0] 38)).block _ (lt_of_block b0) (fun f => f)).trans b0
  have hY1 : (((w.alloc (.cells #[.int .i64 0, .int .i64 0, .int .i64 0, .int .u64 0, .int .i64 0, .int .i64 0, .int .i64 0] 38)).alloc (.cells #[.int .i64 th0, .int .i64 (p : Int), .int .i64 (p : Int), .int .u64 wd0, .int .i64 0, .int .i64 0, .int .i64 0] 38)).drew).heap[w.heap.size + 1]? = some (.cells #[.int .i64 th0, .int .i64 (p : Int), .int .i64 (p : Int), .int .u64 wd0, .int .i64 0, .int .i64 0, .int .i64 0] 38 (0, 0)) := by
    have := (MapKept.heap_alloc (w.alloc (.cells #[.int .i64 0, .int .i64 0, .int .i64 0, .int .u64 0, .int .i64 0, .int .i64 0, .int .i64 0] 38)) (.cells #[.int .i64 th0, .int .i64 (p : Int), .int .i64 (p : Int), .int .u64 wd0, .int .i64 0, .int .i64 0, .int .i64 0] 38)).1
    rw [hs0] at this
    exact this
  have hKY : Keeps (fun _ => False) w (((w.alloc (.cells #[.int .i64 0, .int .i64 0, .int .i64 0, .int .u64 0, .int .i64 0, .int .i64 0, .int .i64 0] 38)).alloc (.cells #[.int .i64 th0, .int .i64 (p : Int), .int .i64 (p : Int), .int .u64 wd0, .int .i64 0, .int .i64 0, .int .i64 0] 38)).drew) := (k0.alloc _).drew
  have hYs : w.heap.size + 2 ≤ (((w.alloc (.cells #[.int .i64 0, .int .i64 0, .int .i64 0, .int .u64 0, .int .i64 0, .int .i64 0, .int .i64 0] 38)).alloc (.cells #[.int .i64 th0, .int .i64 (p : Int), .int .i64 (p : Int), .int .u64 wd0, .int .i64 0, .int .i64 0, .int .i64 0] 38)).drew).heap.size := by simp
  generalize ((w.alloc (.cells #[.int .i64 0, .int .i64 0, .int .i64 0, .int .u64 0, .int .i64 0, .int .i64 0, .int .i64 0] 38)).alloc (.cells #[.int .i64 th0, .int .i64 (p : Int), .int .i64 (p : Int), .int .u64 wd0, .int .i64 0, .int .i64 0, .int .i64 0] 38)).drew = Y at *
  have hwp : IntKind.i64.wrap ((p : Int) + 1) = (p : Int) + 1 := by rw [IntKind.wrap_i64]; omega
  clear x0 x1 x2 x3 x4 x5 hS0 e0 k0 b0 hs0
  go_wp2_with fail
  go_loopw [6] (fun u wr => ∃ (k : Nat) (t : Ty), u = .int .i64 k ∧ p + 1 ≤ k ∧ k ≤ L.length ∧ 0 ≤ t.rd ∧ t.rd ≤ k ∧ 0 ≤ t.wr ∧ t.wr ≤ k ∧ Hid (z = tryG t (L.drop k) k) ∧ wr.heap[w.heap.size]? = some (.cells #[.int .i64 0, .int .i64 0, .int .i64 0, .int .u64 0, .int .i64 0, .int .i64 0, .int .i64 0] 38 (0, 0)) ∧ wr.heap[w.heap.size + 1]? = some (.cells (tyV t) 38 (0, 0)) ∧ Keeps (fun _ => False) w wr ∧ w.heap.size + 2 ≤ wr.heap.size) (fun u _ => L.length - (intOf u).toNat)
  case atStart => exact ⟨p + 1, _, by simp, Nat.le_refl _, by omega, Int.le_refl _, by show (0 : Int) ≤ _; omega, Int.le_refl _, by show (0 : Int) ≤ _; omega, HZ, hY0, hY1, hKY, hYs⟩
  case round =>
    clear HZ hY0 hY1 hKY hYs
    obtain ⟨k, t, rfl, hk1, hk, hr0, hr1, hw0, hw1, hF, br, bt, kr, hsz⟩ := hrel
    obtain ⟨tth, tfi, tla, tsn, thow, trd, twr⟩ := t
    dsimp only [tyV] at hr0 hr1 hw0 hw1 bt
    by_cases hlt : k < L.length
    · have hki : (k : Int) < L.length := by omega
      have hk0 : (0 : Int) ≤ k := by omega
      obtain ⟨g', off', hgg, x0, x1, x2, x3, x4, x5⟩ := (HV.out wr kr).at k hlt
      simp only [Option.some.injEq, Addr.mk.injEq, and_true] at hgg
      obtain ⟨rfl, rfl⟩ := hgg
      have hF2 : z = tryG ⟨tth, tfi, tla, tsn, thow, trd, twr⟩ (L[k] :: L.drop (k + 1)) k := by rw [hF.out, List.drop_eq_getElem_cons hlt]
      rw [tryG] at hF2
      have HF : Hid (z = _) := hF2
      clear hF hF2
      generalize hev : L[k]'hlt = e at *
      clear hev
      obtain ⟨th, kd, ad, wd, own, er⟩ := e
      dsimp only at x0 x1 x2 x3 x4 x5 HF
      have hne1 : ¬ wr.heap.size = w.heap.size + 1 := by omega
      have hne2 : ¬ w.heap.size + 1 = wr.heap.size := by omega
      have hne3 : ¬ w.heap.size = wr.heap.size := by omega
      have hne4 : ¬ w.heap.size = w.heap.size + 1 := by omega
      by_cases hth : th = tth
      · subst hth
        rw [if_neg (by simp)] at HF
        by_cases h4 : kd = 4
        · subst h4
          obtain ⟨kB, y0, y1, y2, y3, y4, y5⟩ := boxed wr th 4 ad wd own er
          have br' := (kB.block _ (lt_of_block br) (fun f => f)).trans br
          have bt' := (kB.block _ (lt_of_block bt) (fun f => f)).trans bt
          have kr' := kr.trans kB
          have hsz' : w.heap.size + 2 ≤ (wr.alloc (.cells #[.int .i64 th, .int .i64 4, .int .u64 ad, .int .u64 wd, .bool own, .int .i64 er] 44)).heap.size := Nat.le_trans hsz kB.size
          obtain ⟨d0, d1, d2, d3, d4, d5, d6⟩ := blk7 bt'
          have fz : ∀ j, (wr.alloc (.cells #[.int .i64 th, .int .i64 4, .int .u64 ad, .int .u64 wd, .bool own, .int .i64 er] 44)).frozen? ⟨w.heap.size + 1, j, none⟩ = false := fun j => frozen_of_block bt' j
          have q2 := fz 2
          have q3 := fz 3
          have bN : (((wr.alloc (.cells #[.int .i64 th, .int .i64 4, .int .u64 ad, .int .u64 wd, .bool own, .int .i64 er] 44)).setCell ⟨w.heap.size + 1, 2, none⟩ (.int .i64 (k : Int))).setCell ⟨w.heap.size + 1, 3, none⟩ (.int .u64 wd)).heap[w.heap.size + 1]? = some (.cells (tyV ⟨th, tfi, (k : Int), wd, thow, trd, twr⟩) 38 (0, 0)) := block_set (block_set bt' 2 (.int .i64 (k : Int))) 3 (.int .u64 wd)
          have kN : Keeps (fun _ => False) w (((wr.alloc (.cells #[.int .i64 th, .int .i64 4, .int .u64 ad, .int .u64 wd, .bool own, .int .i64 er] 44)).setCell ⟨w.heap.size + 1, 2, none⟩ (.int .i64 (k : Int))).setCell ⟨w.heap.size + 1, 3, none⟩ (.int .u64 wd)) := (kr'.setCell (.inl (by show w.heap.size ≤ w.heap.size + 1; omega)) _).setCell (.inl (by show w.heap.size ≤ w.heap.size + 1; omega)) _
          have rN : (((wr.alloc (.cells #[.int .i64 th, .int .i64 4, .int .u64 ad, .int .u64 wd, .bool own, .int .i64 er] 44)).setCell ⟨w.heap.size + 1, 2, none⟩ (.int .i64 (k : Int))).setCell ⟨w.heap.size + 1, 3, none⟩ (.int .u64 wd)).heap[w.heap.size]? = some (.cells #[.int .i64 0, .int .i64 0, .int .i64 0, .int .u64 0, .int .i64 0, .int .i64 0, .int .i64 0] 38 (0, 0)) := ((Keeps.setCell (S := fun q => q = w.heap.size + 1) (Keeps.setCell (S := fun q => q = w.heap.size + 1) (Keeps.refl _ _) (.inr rfl) (.int .i64 (k : Int))) (.inr rfl) (.int .u64 wd)).block _ (lt_of_block br') (by omega)).trans br'
          have hsN : w.heap.size + 2 ≤ (((wr.alloc (.cells #[.int .i64 th, .int .i64 4, .int .u64 ad, .int .u64 wd, .bool own, .int .i64 er] 44)).setCell ⟨w.heap.size + 1, 2, none⟩ (.int .i64 (k : Int))).setCell ⟨w.heap.size + 1, 3, none⟩ (.int .u64 wd)).heap.size := by simpa using hsz'
          have FN : Hid (z = tryG ⟨th, tfi, (k : Int), wd, thow, trd, twr⟩ (L.drop (k + 1)) (k + 1)) := by unfold Hid; rw [HF.out]; rfl
          clear HF fz
          go_wp2_with fail
          go_roundw
          · exact ⟨k + 1, ⟨th, tfi, (k : Int), wd, thow, trd, twr⟩, by simp, by omega, by omega, by show (0 : Int) ≤ trd; omega, by show trd ≤ ((k + 1 : Nat) : Int); omega, by show (0 : Int) ≤ twr; omega, by show twr ≤ ((k + 1 : Nat) : Int); omega, FN, rN, bN, kN, hsN⟩
          · simp [intOf]; omega
        · have e4 : (kd == 4) = false := by simpa using h4
          by_cases h2 : kd = 2
          · subst h2
            cases own with
            | true =>
              obtain ⟨kB, y0, y1, y2, y3, y4, y5⟩ := boxed wr th 2 ad wd true er
              have br' := (kB.block _ (lt_of_block br) (fun f => f)).trans br
              have bt' := (kB.block _ (lt_of_block bt) (fun f => f)).trans bt
              have kr' := kr.trans kB
              have hsz' : w.heap.size + 2 ≤ (wr.alloc (.cells #[.int .i64 th, .int .i64 2, .int .u64 ad, .int .u64 wd, .bool true, .int .i64 er] 44)).heap.size := Nat.le_trans hsz kB.size
              obtain ⟨d0, d1, d2, d3, d4, d5, d6⟩ := blk7 bt'
              have fz : ∀ j, (wr.alloc (.cells #[.int .i64 th, .int .i64 2, .int .u64 ad, .int .u64 wd, .bool true, .int .i64 er] 44)).frozen? ⟨w.heap.size + 1, j, none⟩ = false := fun j => frozen_of_block bt' j
              have q2 := fz 2
              have bN : ((wr.alloc (.cells #[.int .i64 th, .int .i64 2, .int .u64 ad, .int .u64 wd, .bool true, .int .i64 er] 44)).setCell ⟨w.heap.size + 1, 2, none⟩ (.int .i64 (k : Int))).heap[w.heap.size + 1]? = some (.cells (tyV ⟨th, tfi, (k : Int), tsn, thow, trd, twr⟩) 38 (0, 0)) := block_set bt' 2 (.int .i64 (k : Int))
              have kN : Keeps (fun _ => False) w ((wr.alloc (.cells #[.int .i64 th, .int .i64 2, .int .u64 ad, .int .u64 wd, .bool true, .int .i64 er] 44)).setCell ⟨w.heap.size + 1, 2, none⟩ (.int .i64 (k : Int))) := kr'.setCell (.inl (by show w.heap.size ≤ w.heap.size + 1; omega)) _
              have rN : ((wr.alloc (.cells #[.int .i64 th, .int .i64 2, .int .u64 ad, .int .u64 wd, .bool true, .int .i64 er] 44)).setCell ⟨w.heap.size + 1, 2, none⟩ (.int .i64 (k : Int))).heap[w.heap.size]? = some (.cells #[.int .i64 0, .int .i64 0, .int .i64 0, .int .u64 0, .int .i64 0, .int .i64 0, .int .i64 0] 38 (0, 0)) := ((Keeps.setCell (S := fun q => q = w.heap.size + 1) (Keeps.refl _ _) (.inr rfl) (.int .i64 (k : Int))).block _ (lt_of_block br') (by omega)).trans br'
              have hsN : w.heap.size + 2 ≤ ((wr.alloc (.cells #[.int .i64 th, .int .i64 2, .int .u64 ad, .int .u64 wd, .bool true, .int .i64 er] 44)).setCell ⟨w.heap.size + 1, 2, none⟩ (.int .i64 (k : Int))).heap.size := by simpa using hsz'
              have FN : Hid (z = tryG ⟨th, tfi, (k : Int), tsn, thow, trd, twr⟩ (L.drop (k + 1)) (k + 1)) := by unfold Hid; rw [HF.out]; rfl
              clear HF fz
              go_wp2_with fail
              go_roundw
              · exact ⟨k + 1, ⟨th, tfi, (k : Int), tsn, thow, trd, twr⟩, by simp, by omega, by omega, by show (0 : Int) ≤ trd; omega, by show trd ≤ ((k + 1 : Nat) : Int); omega, by show (0 : Int) ≤ twr; omega, by show twr ≤ ((k + 1 : Nat) : Int); omega, FN, rN, bN, kN, hsN⟩
              · simp [intOf]; omega
            | false =>
              obtain ⟨kB, y0, y1, y2, y3, y4, y5⟩ := boxed wr th 2 ad wd false er
              have br' := (kB.block _ (lt_of_block br) (fun f => f)).trans br
              have bt' := (kB.block _ (lt_of_block bt) (fun f => f)).trans bt
              have kr' := kr.trans kB
              have hsz' : w.heap.size + 2 ≤ (wr.alloc (.cells #[.int .i64 th, .int .i64 2, .int .u64 ad, .int .u64 wd, .bool false, .int .i64 er] 44)).heap.size := Nat.le_trans hsz kB.size
              obtain ⟨d0, d1, d2, d3, d4, d5, d6⟩ := blk7 bt'
              have hwr : IntKind.i64.wrap (trd + 1) = trd + 1 := by rw [IntKind.wrap_i64]; omega
              have fz : ∀ j, (wr.alloc (.cells #[.int .i64 th, .int .i64 2, .int .u64 ad, .int .u64 wd, .bool false, .int .i64 er] 44)).frozen? ⟨w.heap.size + 1, j, none⟩ = false := fun j => frozen_of_block bt' j
              have q2 := fz 2
              have q3 := fz 5
              have bN : (((wr.alloc (.cells #[.int .i64 th, .int .i64 2, .int .u64 ad, .int .u64 wd, .bool false, .int .i64 er] 44)).setCell ⟨w.heap.size + 1, 2, none⟩ (.int .i64 (k : Int))).setCell ⟨w.heap.size + 1, 5, none⟩ (.int .i64 (trd + 1))).heap[w.heap.size + 1]? = some (.cells (tyV ⟨th, tfi, (k : Int), tsn, thow, trd + 1, twr⟩) 38 (0, 0)) := block_set (block_set bt' 2 (.int .i64 (k : Int))) 5 (.int .i64 (trd + 1))
              have kN : Keeps (fun _ => False) w (((wr.alloc (.cells #[.int .i64 th, .int .i64 2, .int .u64 ad, .int .u64 wd, .bool false, .int .i64 er] 44)).setCell ⟨w.heap.size + 1, 2, none⟩ (.int .i64 (k : Int))).setCell ⟨w.heap.size + 1, 5, none⟩ (.int .i64 (trd + 1))) := (kr'.setCell (.inl (by show w.heap.size ≤ w.heap.size + 1; omega)) _).setCell (.inl (by show w.heap.size ≤ w.heap.size + 1; omega)) _
              have rN : (((wr.alloc (.cells #[.int .i64 th, .int .i64 2, .int .u64 ad, .int .u64 wd, .bool false, .int .i64 er] 44)).setCell ⟨w.heap.size + 1, 2, none⟩ (.int .i64 (k : Int))).setCell ⟨w.heap.size + 1, 5, none⟩ (.int .i64 (trd + 1))).heap[w.heap.size]? = some (.cells #[.int .i64 0, .int .i64 0, .int .i64 0, .int .u64 0, .int .i64 0, .int .i64 0, .int .i64 0] 38 (0, 0)) := ((Keeps.setCell (S := fun q => q = w.heap.size + 1) (Keeps.setCell (S := fun q => q = w.heap.size + 1) (Keeps.refl _ _) (.inr rfl) (.int .i64 (k : Int))) (.inr rfl) (.int .i64 (trd + 1))).block _ (lt_of_block br') (by omega)).trans br'
              have hsN : w.heap.size + 2 ≤ (((wr.alloc (.cells #[.int .i64 th, .int .i64 2, .int .u64 ad, .int .u64 wd, .bool false, .int .i64 er] 44)).setCell ⟨w.heap.size + 1, 2, none⟩ (.int .i64 (k : Int))).setCell ⟨w.heap.size + 1, 5, none⟩ (.int .i64 (trd + 1))).heap.size := by simpa using hsz'
              have FN : Hid (z = tryG ⟨th, tfi, (k : Int), tsn, thow, trd + 1, twr⟩ (L.drop (k + 1)) (k + 1)) := by unfold Hid; rw [HF.out]; rfl
              clear HF fz
              go_wp2_with fail
              go_roundw
              · exact ⟨k + 1, ⟨th, tfi, (k : Int), tsn, thow, trd + 1, twr⟩, by simp, by omega, by omega, by show (0 : Int) ≤ trd + 1; omega, by show trd + 1 ≤ ((k + 1 : Nat) : Int); omega, by show (0 : Int) ≤ twr; omega, by show twr ≤ ((k + 1 : Nat) : Int); omega, FN, rN, bN, kN, hsN⟩
              · simp [intOf]; omega
          · have e2 : (kd == 2) = false := by simpa using h2
            by_cases h3 : kd = 3
            · subst h3
              obtain ⟨kB, y0, y1, y2, y3, y4, y5⟩ := boxed wr th 3 ad wd own er
              have br' := (kB.block _ (lt_of_block br) (fun f => f)).trans br
              have bt' := (kB.block _ (lt_of_block bt) (fun f => f)).trans bt
              have kr' := kr.trans kB
              have hsz' : w.heap.size + 2 ≤ (wr.alloc (.cells #[.int .i64 th, .int .i64 3, .int .u64 ad, .int .u64 wd, .bool own, .int .i64 er] 44)).heap.size := Nat.le_trans hsz kB.size
              obtain ⟨d0, d1, d2, d3, d4, d5, d6⟩ := blk7 bt'
              have hwr : IntKind.i64.wrap (twr + 1) = twr + 1 := by rw [IntKind.wrap_i64]; omega
              have fz : ∀ j, (wr.alloc (.cells #[.int .i64 th, .int .i64 3, .int .u64 ad, .int .u64 wd, .bool own, .int .i64 er] 44)).frozen? ⟨w.heap.size + 1, j, none⟩ = false := fun j => frozen_of_block bt' j
              have q2 := fz 2
              have q3 := fz 6
              have bN : (((wr.alloc (.cells #[.int .i64 th, .int .i64 3, .int .u64 ad, .int .u64 wd, .bool own, .int .i64 er] 44)).setCell ⟨w.heap.size + 1, 2, none⟩ (.int .i64 (k : Int))).setCell ⟨w.heap.size + 1, 6, none⟩ (.int .i64 (twr + 1))).heap[w.heap.size + 1]? = some (.cells (tyV ⟨th, tfi, (k : Int), tsn, thow, trd, twr + 1⟩) 38 (0, 0)) := block_set (block_set bt' 2 (.int .i64 (k : Int))) 6 (.int .i64 (twr + 1))
              have kN : Keeps (fun _ => False) w (((wr.alloc (.cells #[.int .i64 th, .int .i64 3, .int .u64 ad, .int .u64 wd, .bool own, .int .i64 er] 44)).setCell ⟨w.heap.size + 1, 2, none⟩ (.int .i64 (k : Int))).setCell ⟨w.heap.size + 1, 6, none⟩ (.int .i64 (twr + 1))) := (kr'.setCell (.inl (by show w.heap.size ≤ w.heap.size + 1; omega)) _).setCell (.inl (by show w.heap.size ≤ w.heap.size + 1; omega)) _
              have rN : (((wr.alloc (.cells #[.int .i64 th, .int .i64 3, .int .u64 ad, .int .u64 wd, .bool own, .int .i64 er] 44)).setCell ⟨w.heap.size + 1, 2, none⟩ (.int .i64 (k : Int))).setCell ⟨w.heap.size + 1, 6, none⟩ (.int .i64 (twr + 1))).heap[w.heap.size]? = some (.cells #[.int .i64 0, .int .i64 0, .int .i64 0, .int .u64 0, .int .i64 0, .int .i64 0, .int .i64 0] 38 (0, 0)) := ((Keeps.setCell (S := fun q => q = w.heap.size + 1) (Keeps.setCell (S := fun q => q = w.heap.size + 1) (Keeps.refl _ _) (.inr rfl) (.int .i64 (k : Int))) (.inr rfl) (.int .i64 (twr + 1))).block _ (lt_of_block br') (by omega)).trans br'
              have hsN : w.heap.size + 2 ≤ (((wr.alloc (.cells #[.int .i64 th, .int .i64 3, .int .u64 ad, .int .u64 wd, .bool own, .int .i64 er] 44)).setCell ⟨w.heap.size + 1, 2, none⟩ (.int .i64 (k : Int))).setCell ⟨w.heap.size + 1, 6, none⟩ (.int .i64 (twr + 1))).heap.size := by simpa using hsz'
              have FN : Hid (z = tryG ⟨th, tfi, (k : Int), tsn, thow, trd, twr + 1⟩ (L.drop (k + 1)) (k + 1)) := by unfold Hid; rw [HF.out]; rfl
              clear HF fz
              go_wp2_with fail
              go_roundw
              · exact ⟨k + 1, ⟨th, tfi, (k : Int), tsn, thow, trd, twr + 1⟩, by simp, by omega, by omega, by show (0 : Int) ≤ trd; omega, by show trd ≤ ((k + 1 : Nat) : Int); omega, by show (0 : Int) ≤ twr + 1; omega, by show twr + 1 ≤ ((k + 1 : Nat) : Int); omega, FN, rN, bN, kN, hsN⟩
              · simp [intOf]; omega
            · have e3 : (kd == 3) = false := by simpa using h3
              by_cases h6 : kd = 6
              · subst h6
                obtain ⟨kB, y0, y1, y2, y3, y4, y5⟩ := boxed wr th 6 ad wd own er
                have br' := (kB.block _ (lt_of_block br) (fun f => f)).trans br
                have bt' := (kB.block _ (lt_of_block bt) (fun f => f)).trans bt
                have kr' := kr.trans kB
                have hsz' : w.heap.size + 2 ≤ (wr.alloc (.cells #[.int .i64 th, .int .i64 6, .int .u64 ad, .int .u64 wd, .bool own, .int .i64 er] 44)).heap.size := Nat.le_trans hsz kB.size
                obtain ⟨d0, d1, d2, d3, d4, d5, d6⟩ := blk7 bt'
                have fz : ∀ j, (wr.alloc (.cells #[.int .i64 th, .int .i64 6, .int .u64 ad, .int .u64 wd, .bool own, .int .i64 er] 44)).frozen? ⟨w.heap.size + 1, j, none⟩ = false := fun j => frozen_of_block bt' j
                have q2 := fz 2
                have q3 := fz 4
                have bN : (((wr.alloc (.cells #[.int .i64 th, .int .i64 6, .int .u64 ad, .int .u64 wd, .bool own, .int .i64 er] 44)).setCell ⟨w.heap.size + 1, 2, none⟩ (.int .i64 (k : Int))).setCell ⟨w.heap.size + 1, 4, none⟩ (.int .i64 6)).heap[w.heap.size + 1]? = some (.cells (tyV ⟨th, tfi, (k : Int), tsn, 6, trd, twr⟩) 38 (0, 0)) := block_set (block_set bt' 2 (.int .i64 (k : Int))) 4 (.int .i64 6)
                have kN : Keeps (fun _ => False) w (((wr.alloc (.cells #[.int .i64 th, .int .i64 6, .int .u64 ad, .int .u64 wd, .bool own, .int .i64 er] 44)).setCell ⟨w.heap.size + 1, 2, none⟩ (.int .i64 (k : Int))).setCell ⟨w.heap.size + 1, 4, none⟩ (.int .i64 6)) := (kr'.setCell (.inl (by show w.heap.size ≤ w.heap.size + 1; omega)) _).setCell (.inl (by show w.heap.size ≤ w.heap.size + 1; omega)) _
                have rN : (((wr.alloc (.cells #[.int .i64 th, .int .i64 6, .int .u64 ad, .int .u64 wd, .bool own, .int .i64 er] 44)).setCell ⟨w.heap.size + 1, 2, none⟩ (.int .i64 (k : Int))).setCell ⟨w.heap.size + 1, 4, none⟩ (.int .i64 6)).heap[w.heap.size]? = some (.cells #[.int .i64 0, .int .i64 0, .int .i64 0, .int .u64 0, .int .i64 0, .int .i64 0, .int .i64 0] 38 (0, 0)) := ((Keeps.setCell (S := fun q => q = w.heap.size + 1) (Keeps.setCell (S := fun q => q = w.heap.size + 1) (Keeps.refl _ _) (.inr rfl) (.int .i64 (k : Int))) (.inr rfl) (.int .i64 6)).block _ (lt_of_block br') (by omega)).trans br'
                have hsN : w.heap.size + 2 ≤ (((wr.alloc (.cells #[.int .i64 th, .int .i64 6, .int .u64 ad, .int .u64 wd, .bool own, .int .i64 er] 44)).setCell ⟨w.heap.size + 1, 2, none⟩ (.int .i64 (k : Int))).setCell ⟨w.heap.size + 1, 4, none⟩ (.int .i64 6)).heap.size := by simpa using hsz'
                have HE : Hid (z = ⟨th, tfi, (k : Int), tsn, 6, trd, twr⟩) := by unfold Hid; rw [HF.out]; rfl
                clear HF fz
                go_wp2_with (refine wpList_store_row rfl 38 _ _ rfl w.heap.size (tyV ⟨th, tfi, (k : Int), tsn, 6, trd, twr⟩) rfl rfl 38 _ rN (ty_size _) rfl (ty_all _) ?_)
                refine bodyPost_ret (try_ret rfl _ _ w.heap.size (tyV ⟨th, tfi, (k : Int), tsn, 6, trd, twr⟩) (setRow_heap _ _ _ _ _ _ rN) rfl rfl) rfl ?_
                exact ⟨by rw [HE.out]; rfl, kN.row (Nat.le_refl _) _⟩
              · have e6 : (kd == 6) = false := by simpa using h6
                by_cases h7 : kd = 7
                · subst h7
                  obtain ⟨kB, y0, y1, y2, y3, y4, y5⟩ := boxed wr th 7 ad wd own er
                  have br' := (kB.block _ (lt_of_block br) (fun f => f)).trans br
                  have bt' := (kB.block _ (lt_of_block bt) (fun f => f)).trans bt
                  have kr' := kr.trans kB
                  have hsz' : w.heap.size + 2 ≤ (wr.alloc (.cells #[.int .i64 th, .int .i64 7, .int .u64 ad, .int .u64 wd, .bool own, .int .i64 er] 44)).heap.size := Nat.le_trans hsz kB.size
                  obtain ⟨d0, d1, d2, d3, d4, d5, d6⟩ := blk7 bt'
                  have fz : ∀ j, (wr.alloc (.cells #[.int .i64 th, .int .i64 7, .int .u64 ad, .int .u64 wd, .bool own, .int .i64 er] 44)).frozen? ⟨w.heap.size + 1, j, none⟩ = false := fun j => frozen_of_block bt' j
                  have q2 := fz 2
                  have q3 := fz 4
                  have bN : (((wr.alloc (.cells #[.int .i64 th, .int .i64 7, .int .u64 ad, .int .u64 wd, .bool own, .int .i64 er] 44)).setCell ⟨w.heap.size + 1, 2, none⟩ (.int .i64 (k : Int))).setCell ⟨w.heap.size + 1, 4, none⟩ (.int .i64 7)).heap[w.heap.size + 1]? = some (.cells (tyV ⟨th, tfi, (k : Int), tsn, 7, trd, twr⟩) 38 (0, 0)) := block_set (block_set bt' 2 (.int .i64 (k : Int))) 4 (.int .i64 7)
                  have kN : Keeps (fun _ => False) w (((wr.alloc (.cells #[.int .i64 th, .int .i64 7, .int .u64 ad, .int .u64 wd, .bool own, .int .i64 er] 44)).setCell ⟨w.heap.size + 1, 2, none⟩ (.int .i64 (k : Int))).setCell ⟨w.heap.size + 1, 4, none⟩ (.int .i64 7)) := (kr'.setCell (.inl (by show w.heap.size ≤ w.heap.size + 1; omega)) _).setCell (.inl (by show w.heap.size ≤ w.heap.size + 1; omega)) _
                  have rN : (((wr.alloc (.cells #[.int .i64 th, .int .i64 7, .int .u64 ad, .int .u64 wd, .bool own, .int .i64 er] 44)).setCell ⟨w.heap.size + 1, 2, none⟩ (.int .i64 (k : Int))).setCell ⟨w.heap.size + 1, 4, none⟩ (.int .i64 7)).heap[w.heap.size]? = some (.cells #[.int .i64 0, .int .i64 0, .int .i64 0, .int .u64 0, .int .i64 0, .int .i64 0, .int .i64 0] 38 (0, 0)) := ((Keeps.setCell (S := fun q => q = w.heap.size + 1) (Keeps.setCell (S := fun q => q = w.heap.size + 1) (Keeps.refl _ _) (.inr rfl) (.int .i64 (k : Int))) (.inr rfl) (.int .i64 7)).block _ (lt_of_block br') (by omega)).trans br'
                  have hsN : w.heap.size + 2 ≤ (((wr.alloc (.cells #[.int .i64 th, .int .i64 7, .int .u64 ad, .int .u64 wd, .bool own, .int .i64 er] 44)).setCell ⟨w.heap.size + 1, 2, none⟩ (.int .i64 (k : Int))).setCell ⟨w.heap.size + 1, 4, none⟩ (.int .i64 7)).heap.size := by simpa using hsz'
                  have HE : Hid (z = ⟨th, tfi, (k : Int), tsn, 7, trd, twr⟩) := by unfold Hid; rw [HF.out]; rfl
                  clear HF fz
                  go_wp2_with (refine wpList_store_row rfl 38 _ _ rfl w.heap.size (tyV ⟨th, tfi, (k : Int), tsn, 7, trd, twr⟩) rfl rfl 38 _ rN (ty_size _) rfl (ty_all _) ?_)
                  refine bodyPost_ret (try_ret rfl _ _ w.heap.size (tyV ⟨th, tfi, (k : Int), tsn, 7, trd, twr⟩) (setRow_heap _ _ _ _ _ _ rN) rfl rfl) rfl ?_
                  exact ⟨by rw [HE.out]; rfl, kN.row (Nat.le_refl _) _⟩
                · have e7 : (kd == 7) = false := by simpa using h7
                  by_cases h8 : kd = 8
                  · subst h8
                    obtain ⟨kB, y0, y1, y2, y3, y4, y5⟩ := boxed wr th 8 ad wd own er
                    have br' := (kB.block _ (lt_of_block br) (fun f => f)).trans br
                    have bt' := (kB.block _ (lt_of_block bt) (fun f => f)).trans bt
                    have kr' := kr.trans kB
                    have hsz' : w.heap.size + 2 ≤ (wr.alloc (.cells #[.int .i64 th, .int .i64 8, .int .u64 ad, .int .u64 wd, .bool own, .int .i64 er] 44)).heap.size := Nat.le_trans hsz kB.size
                    obtain ⟨d0, d1, d2, d3, d4, d5, d6⟩ := blk7 bt'
                    have fz : ∀ j, (wr.alloc (.cells #[.int .i64 th, .int .i64 8, .int .u64 ad, .int .u64 wd, .bool own, .int .i64 er] 44)).frozen? ⟨w.heap.size + 1, j, none⟩ = false := fun j => frozen_of_block bt' j
                    have q2 := fz 2
                    have q3 := fz 4
                    have bN : (((wr.alloc (.cells #[.int .i64 th, .int .i64 8, .int .u64 ad, .int .u64 wd, .bool own, .int .i64 er] 44)).setCell ⟨w.heap.size + 1, 2, none⟩ (.int .i64 (k : Int))).setCell ⟨w.heap.size + 1, 4, none⟩ (.int .i64 8)).heap[w.heap.size + 1]? = some (.cells (tyV ⟨th, tfi, (k : Int), tsn, 8, trd, twr⟩) 38 (0, 0)) := block_set (block_set bt' 2 (.int .i64 (k : Int))) 4 (.int .i64 8)
                    have kN : Keeps (fun _ => False) w (((wr.alloc (.cells #[.int .i64 th, .int .i64 8, .int .u64 ad, .int .u64 wd, .bool own, .int .i64 er] 44)).setCell ⟨w.heap.size + 1, 2, none⟩ (.int .i64 (k : Int))).setCell ⟨w.heap.size + 1, 4, none⟩ (.int .i64 8)) := (kr'.setCell (.inl (by show w.heap.size ≤ w.heap.size + 1; omega)) _).setCell (.inl (by show w.heap.size ≤ w.heap.size + 1; omega)) _
                    have rN : (((wr.alloc (.cells #[.int .i64 th, .int .i64 8, .int .u64 ad, .int .u64 wd, .bool own, .int .i64 er] 44)).setCell ⟨w.heap.size + 1, 2, none⟩ (.int .i64 (k : Int))).setCell ⟨w.heap.size + 1, 4, none⟩ (.int .i64 8)).heap[w.heap.size]? = some (.cells #[.int .i64 0, .int .i64 0, .int .i64 0, .int .u64 0, .int .i64 0, .int .i64 0, .int .i64 0] 38 (0, 0)) := ((Keeps.setCell (S := fun q => q = w.heap.size + 1) (Keeps.setCell (S := fun q => q = w.heap.size + 1) (Keeps.refl _ _) (.inr rfl) (.int .i64 (k : Int))) (.inr rfl) (.int .i64 8)).block _ (lt_of_block br') (by omega)).trans br'
                    have hsN : w.heap.size + 2 ≤ (((wr.alloc (.cells #[.int .i64 th, .int .i64 8, .int .u64 ad, .int .u64 wd, .bool own, .int .i64 er] 44)).setCell ⟨w.heap.size + 1, 2, none⟩ (.int .i64 (k : Int))).setCell ⟨w.heap.size + 1, 4, none⟩ (.int .i64 8)).heap.size := by simpa using hsz'
                    have HE : Hid (z = ⟨th, tfi, (k : Int), tsn, 8, trd, twr⟩) := by unfold Hid; rw [HF.out]; rfl
                    clear HF fz
                    go_wp2_with (refine wpList_store_row rfl 38 _ _ rfl w.heap.size (tyV ⟨th, tfi, (k : Int), tsn, 8, trd, twr⟩) rfl rfl 38 _ rN (ty_size _) rfl (ty_all _) ?_)
                    refine bodyPost_ret (try_ret rfl _ _ w.heap.size (tyV ⟨th, tfi, (k : Int), tsn, 8, trd, twr⟩) (setRow_heap _ _ _ _ _ _ rN) rfl rfl) rfl ?_
                    exact ⟨by rw [HE.out]; rfl, kN.row (Nat.le_refl _) _⟩
                  · have e8 : (kd == 8) = false := by simpa using h8
                    by_cases h9 : kd = 9
                    · subst h9
                      obtain ⟨kB, y0, y1, y2, y3, y4, y5⟩ := boxed wr th 9 ad wd own er
                      have br' := (kB.block _ (lt_of_block br) (fun f => f)).trans br
                      have bt' := (kB.block _ (lt_of_block bt) (fun f => f)).trans bt
                      have kr' := kr.trans kB
                      have hsz' : w.heap.size + 2 ≤ (wr.alloc (.cells #[.int .i64 th, .int .i64 9, .int .u64 ad, .int .u64 wd, .bool own, .int .i64 er] 44)).heap.size := Nat.le_trans hsz kB.size
                      obtain ⟨d0, d1, d2, d3, d4, d5, d6⟩ := blk7 bt'
                      have fz : ∀ j, (wr.alloc (.cells #[.int .i64 th, .int .i64 9, .int .u64 ad, .int .u64 wd, .bool own, .int .i64 er] 44)).frozen? ⟨w.heap.size + 1, j, none⟩ = false := fun j => frozen_of_block bt' j
                      have q2 := fz 2
                      have q3 := fz 4
                      have bN : (((wr.alloc (.cells #[.int .i64 th, .int .i64 9, .int .u64 ad, .int .u64 wd, .bool own, .int .i64 er] 44)).setCell ⟨w.heap.size + 1, 2, none⟩ (.int .i64 (k : Int))).setCell ⟨w.heap.size + 1, 4, none⟩ (.int .i64 9)).heap[w.heap.size + 1]? = some (.cells (tyV ⟨th, tfi, (k : Int), tsn, 9, trd, twr⟩) 38 (0, 0)) := block_set (block_set bt' 2 (.int .i64 (k : Int))) 4 (.int .i64 9)
                      have kN : Keeps (fun _ => False) w (((wr.alloc (.cells #[.int .i64 th, .int .i64 9, .int .u64 ad, .int .u64 wd, .bool own, .int .i64 er] 44)).setCell ⟨w.heap.size + 1, 2, none⟩ (.int .i64 (k : Int))).setCell ⟨w.heap.size + 1, 4, none⟩ (.int .i64 9)) := (kr'.setCell (.inl (by show w.heap.size ≤ w.heap.size + 1; omega)) _).setCell (.inl (by show w.heap.size ≤ w.heap.size + 1; omega)) _
                      have rN : (((wr.alloc (.cells #[.int .i64 th, .int .i64 9, .int .u64 ad, .int .u64 wd, .bool own, .int .i64 er] 44)).setCell ⟨w.heap.size + 1, 2, none⟩ (.int .i64 (k : Int))).setCell ⟨w.heap.size + 1, 4, none⟩ (.int .i64 9)).heap[w.heap.size]? = some (.cells #[.int .i64 0, .int .i64 0, .int .i64 0, .int .u64 0, .int .i64 0, .int .i64 0, .int .i64 0] 38 (0, 0)) := ((Keeps.setCell (S := fun q => q = w.heap.size + 1) (Keeps.setCell (S := fun q => q = w.heap.size + 1) (Keeps.refl _ _) (.inr rfl) (.int .i64 (k : Int))) (.inr rfl) (.int .i64 9)).block _ (lt_of_block br') (by omega)).trans br'
                      have hsN : w.heap.size + 2 ≤ (((wr.alloc (.cells #[.int .i64 th, .int .i64 9, .int .u64 ad, .int .u64 wd, .bool own, .int .i64 er] 44)).setCell ⟨w.heap.size + 1, 2, none⟩ (.int .i64 (k : Int))).setCell ⟨w.heap.size + 1, 4, none⟩ (.int .i64 9)).heap.size := by simpa using hsz'
                      have HE : Hid (z = ⟨th, tfi, (k : Int), tsn, 9, trd, twr⟩) := by unfold Hid; rw [HF.out]; rfl
                      clear HF fz
                      go_wp2_with (refine wpList_store_row rfl 38 _ _ rfl w.heap.size (tyV ⟨th, tfi, (k : Int), tsn, 9, trd, twr⟩) rfl rfl 38 _ rN (ty_size _) rfl (ty_all _) ?_)
                      refine bodyPost_ret (try_ret rfl _ _ w.heap.size (tyV ⟨th, tfi, (k : Int), tsn, 9, trd, twr⟩) (setRow_heap _ _ _ _ _ _ rN) rfl rfl) rfl ?_
                      exact ⟨by rw [HE.out]; rfl, kN.row (Nat.le_refl _) _⟩
                    · have e9 : (kd == 9) = false := by simpa using h9
                      have hend : ¬ endB kd = true := by simp [endB]; omega
                      obtain ⟨kB, y0, y1, y2, y3, y4, y5⟩ := boxed wr th kd ad wd own er
                      have br' := (kB.block _ (lt_of_block br) (fun f => f)).trans br
                      have bt' := (kB.block _ (lt_of_block bt) (fun f => f)).trans bt
                      have kr' := kr.trans kB
                      have hsz' : w.heap.size + 2 ≤ (wr.alloc (.cells #[.int .i64 th, .int .i64 kd, .int .u64 ad, .int .u64 wd, .bool own, .int .i64 er] 44)).heap.size := Nat.le_trans hsz kB.size
                      obtain ⟨d0, d1, d2, d3, d4, d5, d6⟩ := blk7 bt'
                      have fz : ∀ j, (wr.alloc (.cells #[.int .i64 th, .int .i64 kd, .int .u64 ad, .int .u64 wd, .bool own, .int .i64 er] 44)).frozen? ⟨w.heap.size + 1, j, none⟩ = false := fun j => frozen_of_block bt' j
                      have q2 := fz 2
                      have bN : ((wr.alloc (.cells #[.int .i64 th, .int .i64 kd, .int .u64 ad, .int .u64 wd, .bool own, .int .i64 er] 44)).setCell ⟨w.heap.size + 1, 2, none⟩ (.int .i64 (k : Int))).heap[w.heap.size + 1]? = some (.cells (tyV ⟨th, tfi, (k : Int), tsn, thow, trd, twr⟩) 38 (0, 0)) := block_set bt' 2 (.int .i64 (k : Int))
                      have kN : Keeps (fun _ => False) w ((wr.alloc (.cells #[.int .i64 th, .int .i64 kd, .int .u64 ad, .int .u64 wd, .bool own, .int .i64 er] 44)).setCell ⟨w.heap.size + 1, 2, none⟩ (.int .i64 (k : Int))) := kr'.setCell (.inl (by show w.heap.size ≤ w.heap.size + 1; omega)) _
                      have rN : ((wr.alloc (.cells #[.int .i64 th, .int .i64 kd, .int .u64 ad, .int .u64 wd, .bool own, .int .i64 er] 44)).setCell ⟨w.heap.size + 1, 2, none⟩ (.int .i64 (k : Int))).heap[w.heap.size]? = some (.cells #[.int .i64 0, .int .i64 0, .int .i64 0, .int .u64 0, .int .i64 0, .int .i64 0, .int .i64 0] 38 (0, 0)) := ((Keeps.setCell (S := fun q => q = w.heap.size + 1) (Keeps.refl _ _) (.inr rfl) (.int .i64 (k : Int))).block _ (lt_of_block br') (by omega)).trans br'
                      have hsN : w.heap.size + 2 ≤ ((wr.alloc (.cells #[.int .i64 th, .int .i64 kd, .int .u64 ad, .int .u64 wd, .bool own, .int .i64 er] 44)).setCell ⟨w.heap.size + 1, 2, none⟩ (.int .i64 (k : Int))).heap.size := by simpa using hsz'
                      have FN : Hid (z = tryG ⟨th, tfi, (k : Int), tsn, thow, trd, twr⟩ (L.drop (k + 1)) (k + 1)) := by unfold Hid; rw [HF.out]; rw [if_neg hend]; simp [noteR, hend, h4, h2, h3]
                      clear HF fz
                      go_wp2_with fail
                      go_roundw
                      · exact ⟨k + 1, ⟨th, tfi, (k : Int), tsn, thow, trd, twr⟩, by simp, by omega, by omega, by show (0 : Int) ≤ trd; omega, by show trd ≤ ((k + 1 : Nat) : Int); omega, by show (0 : Int) ≤ twr; omega, by show twr ≤ ((k + 1 : Nat) : Int); omega, FN, rN, bN, kN, hsN⟩
                      · simp [intOf]; omega
      · rw [if_pos hth] at HF
        have hb1 : (th == tth) = false := by simpa using hth
        obtain ⟨kB, y0, y1, y2, y3, y4, y5⟩ := boxed wr th kd ad wd own er
        have br' := (kB.block _ (lt_of_block br) (fun f => f)).trans br
        have bt' := (kB.block _ (lt_of_block bt) (fun f => f)).trans bt
        have kr' := kr.trans kB
        have hsz' : w.heap.size + 2 ≤ (wr.alloc (.cells #[.int .i64 th, .int .i64 kd, .int .u64 ad, .int .u64 wd, .bool own, .int .i64 er] 44)).heap.size := Nat.le_trans hsz kB.size
        obtain ⟨d0, d1, d2, d3, d4, d5, d6⟩ := blk7 bt'
        have FN : Hid (z = tryG ⟨tth, tfi, tla, tsn, thow, trd, twr⟩ (L.drop (k + 1)) (k + 1)) := HF.out
        clear HF
        go_wp2_with fail
        go_roundw
        · exact ⟨k + 1, ⟨tth, tfi, tla, tsn, thow, trd, twr⟩, by simp, by omega, by omega, hr0, by show trd ≤ _; omega, hw0, by show twr ≤ _; omega, FN, br', bt', kr', hsz'⟩
        · simp [intOf]; omega
    · obtain rfl : k = L.length := by omega
      have HE : Hid (z = ⟨tth, tfi, tla, tsn, thow, trd, twr⟩) := by unfold Hid; rw [hF.out, List.drop_length]; rfl
      clear hF
      obtain ⟨d0, d1, d2, d3, d4, d5, d6⟩ := blk7 bt
      go_wp2_with (refine wpList_store_row rfl 38 _ _ rfl w.heap.size (tyV ⟨tth, tfi, tla, tsn, thow, trd, twr⟩) rfl rfl 38 _ br (ty_size _) rfl (ty_all _) ?_)
      refine bodyPost_ret (try_ret rfl _ _ w.heap.size (tyV ⟨tth, tfi, tla, tsn, thow, trd, twr⟩) (setRow_heap _ _ _ _ _ _ br) rfl rfl) rfl ?_
      exact ⟨by rw [HE.out]; rfl, kr.row (Nat.le_refl _) _⟩
end Go.Proofs.YtjmmjkoloioddaaDoor
