
/- Walks of Check (package events). No statement of the seat is proved here. -/
import Derived.Test.YthgkbmfnidehbaaDoorEvJ
import Derived.Test.YthgkbmfnidehbaaDoorEvX
namespace Go.Proofs.YthgkbmfnidehbaaDoor
open Go.RowKit Go.Shelf

theorem results_tc {fn : Func} {t p : Tmp} {ty : TypeId} (h : fn.results = #[.tmp t, .cell p ty]) (tmps : Array Value) (P : Program) (w : World) :
    (results fn tmps).run P w = ((asAddr (tmps.getD p undef)).run P w).andThen fun a w₁ => ((loadVar ty a).run P w₁).andThen fun v w₂ => .ok (.tuple #[tmps.getD t undef, v]) w₂ := by
  simp only [results, h]
  simp [Sem.run_bind, Result.andThen]
theorem size_odd : (Tryd.prog.info? 32).map (·.size) = some 2 := by kernel_rfl
theorem odd_ret2 {fn : Func} {t p : Tmp} (h : fn.results = #[.tmp t, .cell p 32]) (tmps : Array Value) (w : World) (b : Nat) (cs : Array Value) (hb : w.heap[b]? = some (.cells cs 32 (0, 0))) (hs : cs.size = 2)
    (hp : tmps.getD p undef = .pointer (some ⟨b, 0, none⟩)) : (results fn tmps).run Tryd.prog w = .ok (.tuple #[tmps.getD t undef, .agg cs]) w := by
  rw [results_tc h, hp]
  simp [asAddr, run_loadVar_row w b 32 32 cs (0, 0) _ hb Tryd.underlying32 rfl (by rw [size_odd, hs]), Result.andThen]
theorem odd_ret1 {fn : Func} {p : Tmp} (h : fn.results = #[.cell p 32]) (tmps : Array Value) (w : World) (b : Nat) (cs : Array Value) (hb : w.heap[b]? = some (.cells cs 32 (0, 0))) (hs : cs.size = 2)
    (hp : tmps.getD p undef = .pointer (some ⟨b, 0, none⟩)) : (results fn tmps).run Tryd.prog w = .ok (.agg cs) w :=
  results_cell_row h tmps w b 32 cs (0, 0) _ hp hb Tryd.underlying32 rfl (by rw [size_odd, hs])
def odV (a e : Int) : Array Value := #[.int .i64 a, .int .i64 e]
theorem od_size (a e : Int) : (Tryd.prog.info? 32).map (·.size) = some (odV a e).size := size_odd
theorem od_all (a e : Int) : (odV a e).all (·.oneCell') = true := by simp [odV, Value.oneCell']
theorem Crs.young {w : World} {base c : Nat} {S : St} {m : Nat → Option Nat} (h : Crs w base c S m) : ∀ q, Crs.own c m q → base ≤ q := by
  rintro q (rfl | ⟨i, hi, hq⟩)
  · exact h.base.1
  · exact h.base.2 i q hi hq
theorem errE_bound (S : St) (e : Ev) : 0 ≤ errE S e ∧ errE S e < 1000 := by
  unfold errE errS; repeat' split
  all_goals omega
theorem next_n {S : St} {e : Ev} : (nextS S e).n ≤ S.n + 1 := by unfold nextS; dsimp only; split <;> omega

set_option maxRecDepth 100000 in
set_option maxHeartbeats 8000000 in
theorem check_any (v : Value) (L : List Ev) (w : World) (hv : EvsAt w v L) (hg : Gv w) (h8 : 2 ≤ w.heap.size) :
    Calls Tryd.prog 23 #[v] w fun ex w' => ex = .returned (.agg (odV (checkL L).1 (checkL L).2)) ∧ Keeps (fun _ => False) w w' := by
  have hbig := hv.big
  have hwf := hv.wf
  have HV : Hid (∀ X, Keeps (fun _ => False) w X → EvsAt X v L ∧ Gv X) := fun X k => ⟨hv.keeps k, hg.keeps k⟩
  obtain ⟨a, cap, rfl, hcap⟩ := hv.els.shape
  clear hv hg
  have k0 := (Keeps.refl (fun _ => False) w).alloc (.cells (odV 0 0) 32)
  have b0 : (w.alloc (.cells (odV 0 0) 32)).heap[w.heap.size]? = some (.cells (odV 0 0) 32 (0, 0)) := (MapKept.heap_alloc w _).1
  have ST := start_any (w.alloc (.cells (odV 0 0) 32))
  have hsz : (w.alloc (.cells (odV 0 0) 32)).heap.size = w.heap.size + 1 := by simp
  rw [hsz] at ST
  unfold odV at ST k0 b0
  go_enter Tryd.func23, Tryd.ntmps23
  go_wp2_with fail
  refine ST.mono ?_
  rintro ex w1 ⟨rfl, C1, k1⟩
  have K1 := k0.trans k1
  have B1 := (k1.block _ (lt_of_block b0) (fun f => f)).trans b0
  clear ST k0 k1 b0 hsz
  go_wp2_with fail
  go_loopw [10] (fun u wr => ∃ (k : Nat), u = .int .i64 k ∧ k ≤ L.length ∧ Hid (∃ S m, Crs wr (w.heap.size + 1) (w.heap.size + 1) S m ∧ Uniq S ∧ S.n ≤ k ∧ checkL L = chk S (L.drop k) k) ∧ Keeps (fun _ => False) w wr ∧ wr.heap[w.heap.size]? = some (.cells (odV 0 0) 32 (0, 0))) (fun u _ => L.length - (intOf u).toNat)
  case atStart => exact ⟨0, rfl, Nat.zero_le _, ⟨st0, fun _ => none, C1, st0_uniq, Int.le_refl _, rfl⟩, K1, B1⟩
  case round =>
    clear C1 K1 B1
    obtain ⟨k, rfl, hk, hh, kr, br⟩ := hrel
    by_cases hlt : k < L.length
    · have hki : (k : Int) < L.length := by omega
      have hk0 : (0 : Int) ≤ k := by omega
      obtain ⟨S, m, C, hu, hn, hc⟩ := hh.out
      obtain ⟨g, off, rfl, x0, x1, x2, x3, x4, x5⟩ := (HV.out wr kr).1.at k hlt
      have hew := hwf _ (List.getElem_mem hlt)
      have hdrop : L.drop k = L[k] :: L.drop (k + 1) := List.drop_eq_getElem_cons hlt
      rw [hdrop, chk] at hc
      have hnb : S.n < 4611686018427387904 := by omega
      have hbd := errE_bound S (L[k])
      have R := fun W (q : Keeps (fun _ => False) wr W) => refusal_any (w.heap.size + 1) (w.heap.size + 1) S m (L[k]) W (C.keeps q (fun _ _ f => f)) (HV.out W (kr.trans q)).2 hnb
      have TK := fun (he : errE S (L[k]) = 0) W (q : Keeps (fun _ => False) wr W) => take_any (w.heap.size + 1) (w.heap.size + 1) S m (L[k]) W (C.keeps q (fun _ _ f => f)) (HV.out W (kr.trans q)).2 hew hu he hnb (by omega)
      have HC : Hid (checkL L = _) := hc
      have HY : Hid (∀ q, Crs.own (w.heap.size + 1) m q → w.heap.size + 1 ≤ q) := C.young
      have HUN : Hid (errE S (L[k]) = 0 → Uniq (nextS S (L[k]))) := fun h => next_uniq hu h
      clear hc C hu hh hdrop hew hwf
      generalize hev : L[k]'hlt = e at *
      obtain ⟨th, kd, ad, wd, own, er⟩ := e
      dsimp only at x0 x1 x2 x3 x4 x5
      have ka := (Keeps.refl (fun _ => False) wr).alloc (.cells #[.int .i64 th, .int .i64 kd, .int .u64 ad, .int .u64 wd, .bool own, .int .i64 er] 29)
      have ba := (MapKept.heap_alloc wr (.cells #[.int .i64 th, .int .i64 kd, .int .u64 ad, .int .u64 wd, .bool own, .int .i64 er] 29)).1
      clear hev
      generalize hz : errE S ⟨th, kd, ad, wd, own, er⟩ = z at *
      go_wp2_with fail
      refine (R _ ka).mono ?_
      rintro ex w2 ⟨rfl, k2⟩
      have K2 := ka.trans k2
      have B2 := (K2.block _ (lt_of_block br) (fun f => f)).trans br
      have e2 := (k2.block _ (lt_of_block ba) (fun f => f)).trans ba
      have c0 : w2.cell? ⟨wr.heap.size, 0, none⟩ = some (.int .i64 th) := by rw [cell_of_block e2]; rfl
      have c1 : w2.cell? ⟨wr.heap.size, 1, none⟩ = some (.int .i64 kd) := by rw [cell_of_block e2]; rfl
      have c2 : w2.cell? ⟨wr.heap.size, 2, none⟩ = some (.int .u64 ad) := by rw [cell_of_block e2]; rfl
      have c3 : w2.cell? ⟨wr.heap.size, 3, none⟩ = some (.int .u64 wd) := by rw [cell_of_block e2]; rfl
      have c4 : w2.cell? ⟨wr.heap.size, 4, none⟩ = some (.bool own) := by rw [cell_of_block e2]; rfl
      have c5 : w2.cell? ⟨wr.heap.size, 5, none⟩ = some (.int .i64 er) := by rw [cell_of_block e2]; rfl
      clear R k2 e2 ba ka
      by_cases hz0 : z = 0
      · subst hz0
        have TK2 := TK rfl
        clear TK
        go_wp2_with fail
        refine (TK2 _ K2).mono ?_
        rintro ex w3 ⟨rfl, m', C', k3⟩
        have K3 := (kr.trans K2).young k3 (fun q hq => by have := HY.out q hq; omega)
        have B3 := (k3.block _ (lt_of_block B2) (fun f => by have := HY.out _ f; omega)).trans B2
        clear TK2 k3 c0 c1 c2 c3 c4 c5 x0 x1 x2 x3 x4 x5 B2 K2 kr br
        go_wp2_with fail
        go_roundw
        · refine ⟨k + 1, by simp, by omega, ⟨_, m', C', HUN.out (by first | rfl | trivial), by have := next_n (S := S) (e := ⟨th, kd, ad, wd, own, er⟩); omega, ?_⟩, K3, B3⟩
          simpa using HC.out
        · simp [intOf]; omega
      · have hcz : checkL L = ((k : Int), z) := by have := HC.out; rw [if_neg hz0] at this; exact this
        have HZ : Hid (checkL L = ((k : Int), z)) := hcz
        have K4 := kr.trans K2
        clear TK hcz HC hz c0 c1 c2 c3 c4 c5 x0 x1 x2 x3 x4 x5
        go_wp2_with (refine wpList_store_row rfl 32 _ _ rfl w.heap.size (odV k z) rfl rfl 32 _ B2 (od_size _ _) rfl (od_all _ _) ?_)
        refine bodyPost_ret (odd_ret1 rfl _ _ w.heap.size (odV k z) (setRow_heap _ _ _ _ _ _ B2) rfl rfl) rfl ?_
        exact ⟨by rw [HZ.out], K4.row (Nat.le_refl _) _⟩
    · obtain rfl : k = L.length := by omega
      have hcz : checkL L = (-1, 0) := by
        obtain ⟨S, m, C, hu, hn, hc⟩ := hh.out
        rw [hc, List.drop_length]; rfl
      have HZ : Hid (checkL L = (-1, 0)) := hcz
      clear hcz hh
      go_wp2_with (refine wpList_store_row rfl 32 _ _ rfl w.heap.size (odV (-1) 0) rfl rfl 32 _ br (od_size _ _) rfl (od_all _ _) ?_)
      refine bodyPost_ret (odd_ret1 rfl _ _ w.heap.size (odV (-1) 0) (setRow_heap _ _ _ _ _ _ br) rfl rfl) rfl ?_
      exact ⟨by rw [HZ.out], kr.row (Nat.le_refl _) _⟩
end Go.Proofs.YthgkbmfnidehbaaDoor
