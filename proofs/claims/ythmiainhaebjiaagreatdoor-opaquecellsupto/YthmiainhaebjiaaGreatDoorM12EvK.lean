/-
  No statement of the seat is proved here. (Several texts in one: EvK, WiL, WiM, OpB.)
-/
import Derived.Test.YthmiainhaebjiaaGreatDoorM10EvJ
import Derived.Test.YthmiainhaebjiaaGreatDoorM05WiB
import Derived.Test.YthmiainhaebjiaaGreatDoorM11WiF
import Derived.Test.YthmiainhaebjiaaGreatDoorM03EvE

/- Walks of Check (package events). No statement of the seat is proved here. -/
namespace Go.Proofs.YthmiainhaebjiaaGreatDoor
open Go.RowKit Go.Shelf

theorem results_tc {fn : Func} {t p : Tmp} {ty : TypeId} (h : fn.results = #[.tmp t, .cell p ty]) (tmps : Array Value) (P : Program) (w : World) :
    (results fn tmps).run P w = ((asAddr (tmps.getD p undef)).run P w).andThen fun a w₁ => ((loadVar ty a).run P w₁).andThen fun v w₂ => .ok (.tuple #[tmps.getD t undef, v]) w₂ := by
  simp only [results, h]
  simp [Sem.run_bind, Result.andThen]
theorem size_odd : (Tryz.prog.info? 31).map (·.size) = some 2 := by kernel_rfl
theorem odd_ret2 {fn : Func} {t p : Tmp} (h : fn.results = #[.tmp t, .cell p 31]) (tmps : Array Value) (w : World) (b : Nat) (cs : Array Value) (hb : w.heap[b]? = some (.cells cs 31 (0, 0))) (hs : cs.size = 2)
    (hp : tmps.getD p undef = .pointer (some ⟨b, 0, none⟩)) : (results fn tmps).run Tryz.prog w = .ok (.tuple #[tmps.getD t undef, .agg cs]) w := by
  rw [results_tc h, hp]
  simp [asAddr, run_loadVar_row w b 31 31 cs (0, 0) _ hb Tryz.underlying31 rfl (by rw [size_odd, hs]), Result.andThen]
theorem odd_ret1 {fn : Func} {p : Tmp} (h : fn.results = #[.cell p 31]) (tmps : Array Value) (w : World) (b : Nat) (cs : Array Value) (hb : w.heap[b]? = some (.cells cs 31 (0, 0))) (hs : cs.size = 2)
    (hp : tmps.getD p undef = .pointer (some ⟨b, 0, none⟩)) : (results fn tmps).run Tryz.prog w = .ok (.agg cs) w :=
  results_cell_row h tmps w b 31 cs (0, 0) _ hp hb Tryz.underlying31 rfl (by rw [size_odd, hs])
def odV (a e : Int) : Array Value := #[.int .i64 a, .int .i64 e]
theorem od_size (a e : Int) : (Tryz.prog.info? 31).map (·.size) = some (odV a e).size := size_odd
theorem od_all (a e : Int) : (odV a e).all (·.oneCell') = true := by simp [odV, Value.oneCell']
theorem Crs.young {w : World} {base c : Nat} {S : St} {m : Nat → Option Nat} (h : Crs w base c S m) : ∀ q, Crs.own c m q → base ≤ q := by
  rintro q (rfl | ⟨i, hi, hq⟩)
  · exact h.base.1
  · exact h.base.2 i q hi hq
theorem errE_bound (S : St) (e : Ev) : 0 ≤ errE S e ∧ errE S e < 1000 := by
  unfold errE errS; repeat' split
  all_goals omega
theorem next_n {S : St} {e : Ev} : (nextS S e).n ≤ S.n + 1 := by unfold nextS; dsimp only; split <;> omega

set_option maxRecDepth 100000 in
set_option maxHeartbeats 8000000 in
theorem check_any (v : Value) (L : List Ev) (w : World) (hv : EvsAt w v L) (hg : Gv w) (h8 : 2 ≤ w.heap.size) :
    Calls Tryz.prog 61 #[v] w fun ex w' => ex = .returned (.agg (odV (checkL L).1 (checkL L).2)) ∧ Keeps (fun _ => False) w w' := by
  have hbig := hv.big
  have hwf := hv.wf
  have HV : Hid (∀ X, Keeps (fun _ => False) w X → EvsAt X v L ∧ Gv X) := fun X k => ⟨hv.keeps k, hg.keeps k⟩
  obtain ⟨a, cap, rfl, hcap⟩ := hv.els.shape
  clear hv hg
  have k0 := (Keeps.refl (fun _ => False) w).alloc (.cells (odV 0 0) 31)
  have b0 : (w.alloc (.cells (odV 0 0) 31)).heap[w.heap.size]? = some (.cells (odV 0 0) 31 (0, 0)) := (MapKept.heap_alloc w _).1
  have ST := start_any (w.alloc (.cells (odV 0 0) 31))
  have hsz : (w.alloc (.cells (odV 0 0) 31)).heap.size = w.heap.size + 1 := by simp
  rw [hsz] at ST
  unfold odV at ST k0 b0
  go_enter Tryz.func61, Tryz.ntmps61
  go_wp2_with fail
  refine ST.mono ?_
  rintro ex w1 ⟨rfl, C1, k1⟩
  have K1 := k0.trans k1
  have B1 := (k1.block _ (lt_of_block b0) (fun f => f)).trans b0
  clear ST k0 k1 b0 hsz
  go_wp2_with fail
  go_loopw [10] (fun u wr => ∃ (k : Nat), u = .int .i64 k ∧ k ≤ L.length ∧ Hid (∃ S m, Crs wr (w.heap.size + 1) (w.heap.size + 1) S m ∧ Uniq S ∧ S.n ≤ k ∧ checkL L = chk S (L.drop k) k) ∧ Keeps (fun _ => False) w wr ∧ wr.heap[w.heap.size]? = some (.cells (odV 0 0) 31 (0, 0))) (fun u _ => L.length - (intOf u).toNat)
  case atStart => exact ⟨0, rfl, Nat.zero_le _, ⟨st0, fun _ => none, C1, st0_uniq, Int.le_refl _, rfl⟩, K1, B1⟩
  case round =>
    clear C1 K1 B1
    obtain ⟨k, rfl, hk, hh, kr, br⟩ := hrel
    by_cases hlt : k < L.length
    · have hki : (k : Int) < L.length := by omega
      have hk0 : (0 : Int) ≤ k := by omega
      obtain ⟨S, m, C, hu, hn, hc⟩ := hh.out
      obtain ⟨g, off, rfl, x0, x1, x2, x3, x4, x5⟩ := (HV.out wr kr).1.at k hlt
      have hew := hwf _ (List.getElem_mem hlt)
      have hdrop : L.drop k = L[k] :: L.drop (k + 1) := List.drop_eq_getElem_cons hlt
      rw [hdrop, chk] at hc
      have hnb : S.n < 4611686018427387904 := by omega
      have hbd := errE_bound S (L[k])
      have R := fun W (q : Keeps (fun _ => False) wr W) => refusal_any (w.heap.size + 1) (w.heap.size + 1) S m (L[k]) W (C.keeps q (fun _ _ f => f)) (HV.out W (kr.trans q)).2 hnb
      have TK := fun (he : errE S (L[k]) = 0) W (q : Keeps (fun _ => False) wr W) => take_any (w.heap.size + 1) (w.heap.size + 1) S m (L[k]) W (C.keeps q (fun _ _ f => f)) (HV.out W (kr.trans q)).2 hew hu he hnb (by omega)
      have HC : Hid (checkL L = _) := hc
      have HY : Hid (∀ q, Crs.own (w.heap.size + 1) m q → w.heap.size + 1 ≤ q) := C.young
      have HUN : Hid (errE S (L[k]) = 0 → Uniq (nextS S (L[k]))) := fun h => next_uniq hu h
      clear hc C hu hh hdrop hew hwf
      generalize hev : L[k]'hlt = e at *
      obtain ⟨th, kd, ad, wd, own, er⟩ := e
      dsimp only at x0 x1 x2 x3 x4 x5
      have ka := (Keeps.refl (fun _ => False) wr).alloc (.cells #[.int .i64 th, .int .i64 kd, .int .u64 ad, .int .u64 wd, .bool own, .int .i64 er] 60)
      have ba := (MapKept.heap_alloc wr (.cells #[.int .i64 th, .int .i64 kd, .int .u64 ad, .int .u64 wd, .bool own, .int .i64 er] 60)).1
      clear hev
      generalize hz : errE S ⟨th, kd, ad, wd, own, er⟩ = z at *
      go_wp2_with fail
      refine (R _ ka).mono ?_
      rintro ex w2 ⟨rfl, k2⟩
      have K2 := ka.trans k2
      have B2 := (K2.block _ (lt_of_block br) (fun f => f)).trans br
      have e2 := (k2.block _ (lt_of_block ba) (fun f => f)).trans ba
      have c0 : w2.cell? ⟨wr.heap.size, 0, none⟩ = some (.int .i64 th) := by rw [cell_of_block e2]; rfl
      have c1 : w2.cell? ⟨wr.heap.size, 1, none⟩ = some (.int .i64 kd) := by rw [cell_of_block e2]; rfl
      have c2 : w2.cell? ⟨wr.heap.size, 2, none⟩ = some (.int .u64 ad) := by rw [cell_of_block e2]; rfl
      have c3 : w2.cell? ⟨wr.heap.size, 3, none⟩ = some (.int .u64 wd) := by rw [cell_of_block e2]; rfl
      have c4 : w2.cell? ⟨wr.heap.size, 4, none⟩ = some (.bool own) := by rw [cell_of_block e2]; rfl
      have c5 : w2.cell? ⟨wr.heap.size, 5, none⟩ = some (.int .i64 er) := by rw [cell_of_block e2]; rfl
      clear R k2 e2 ba ka
      by_cases hz0 : z = 0
      · subst hz0
        have TK2 := TK rfl
        clear TK
        go_wp2_with fail
        refine (TK2 _ K2).mono ?_
        rintro ex w3 ⟨rfl, m', C', k3⟩
        have K3 := (kr.trans K2).young k3 (fun q hq => by have := HY.out q hq; omega)
        have B3 := (k3.block _ (lt_of_block B2) (fun f => by have := HY.out _ f; omega)).trans B2
        clear TK2 k3 c0 c1 c2 c3 c4 c5 x0 x1 x2 x3 x4 x5 B2 K2 kr br
        go_wp2_with fail
        go_roundw
        · refine ⟨k + 1, by simp, by omega, ⟨_, m', C', HUN.out (by first | rfl | trivial), by have := next_n (S := S) (e := ⟨th, kd, ad, wd, own, er⟩); omega, ?_⟩, K3, B3⟩
          simpa using HC.out
        · simp [intOf]; omega
      · have hcz : checkL L = ((k : Int), z) := by have := HC.out; rw [if_neg hz0] at this; exact this
        have HZ : Hid (checkL L = ((k : Int), z)) := hcz
        have K4 := kr.trans K2
        clear TK hcz HC hz c0 c1 c2 c3 c4 c5 x0 x1 x2 x3 x4 x5
        go_wp2_with (refine wpList_store_row rfl 31 _ _ rfl w.heap.size (odV k z) rfl rfl 31 _ B2 (od_size _ _) rfl (od_all _ _) ?_)
        refine bodyPost_ret (odd_ret1 rfl _ _ w.heap.size (odV k z) (setRow_heap _ _ _ _ _ _ B2) rfl rfl) rfl ?_
        exact ⟨by rw [HZ.out], K4.row (Nat.le_refl _) _⟩
    · obtain rfl : k = L.length := by omega
      have hcz : checkL L = (-1, 0) := by
        obtain ⟨S, m, C, hu, hn, hc⟩ := hh.out
        rw [hc, List.drop_length]; rfl
      have HZ : Hid (checkL L = (-1, 0)) := hcz
      clear hcz hh
      go_wp2_with (refine wpList_store_row rfl 31 _ _ rfl w.heap.size (odV (-1) 0) rfl rfl 31 _ br (od_size _ _) rfl (od_all _ _) ?_)
      refine bodyPost_ret (odd_ret1 rfl _ _ w.heap.size (odV (-1) 0) (setRow_heap _ _ _ _ _ _ br) rfl rfl) rfl ?_
      exact ⟨by rw [HZ.out], kr.row (Nat.le_refl _) _⟩
end Go.Proofs.YthmiainhaebjiaaGreatDoor


/- Walks of gather, Blocks, Ahead (package witness). No statement of the seat is proved here. -/
namespace Go.Proofs.YthmiainhaebjiaaGreatDoor
open Go.RowKit Go.Shelf

@[go_sem] theorem run_mkMapI (w : World) : (Instr.makeMap 133 none).run Tryz.prog w = .ok (.map (some w.heap.size)) (w.alloc (.map #[] 0)) := by
  simp [Instr.makeMap, Result.andThen]
/-- What gather answers of a history that can be. -/
def GaPost (L : List Ev) (w : World) (ex : Ending) (w' : World) : Prop :=
  ∃ (rb mb bs : Nat) (v : Value) (pl : Bool) (X : List Bx), ex = .returned (.tuple #[.pointer (some ⟨rb, 0, none⟩), .int .i64 0]) ∧ w.heap.size ≤ rb ∧ rb < bs ∧ w'.heap[rb]? = some (.cells #[v, .map (some mb), .bool pl] 135 (0, 0)) ∧ Prs w' bs v X ∧ X.map (·.p) = partsL L ∧ Keeps (fun _ => False) w w'
theorem take_push {L : List Ev} {k : Nat} (hk : k < L.length) : partsF wt0 (L.take (k + 1)) 0 = stepW (partsF wt0 (L.take k) 0) k (L[k]) := by
  rw [List.take_succ_eq_append_getElem hk, parts_push]
  simp [Nat.min_eq_left (Nat.le_of_lt hk)]
set_option maxRecDepth 100000 in
set_option maxHeartbeats 8000000 in
theorem gather_any (v : Value) (L : List Ev) (hL : L.length ≤ 1100000) (hz : (checkL L).2 = 0) (w : World) (hv : EvsAt w v L) (hg : Gv w) (h8 : 2 ≤ w.heap.size) : Calls Tryz.prog 63 #[v] w (GaPost L w) := by
  have CK := check_any v L w hv hg h8
  have hwf := hv.wf
  have HV : Hid (∀ X, Keeps (fun _ => False) w X → EvsAt X v L) := fun X k => hv.keeps k
  obtain ⟨a, cap, rfl, hcap⟩ := hv.els.shape
  clear hv hg
  rw [hz] at CK
  unfold odV at CK
  have HP : Hid (∀ k, k ≤ L.length → PInv (partsF wt0 (L.take k) 0) k) := fun k hk => by
    have := pinv_parts (L.take k)
    rwa [List.length_take, Nat.min_eq_left hk] at this
  clear hz
  go_enter Tryz.func63, Tryz.ntmps63
  go_wp2_with fail
  refine CK.mono ?_
  rintro ex w1 ⟨rfl, k1⟩
  clear CK
  have ka := (Keeps.refl (fun _ => False) w1).alloc (.cells #[.int .i64 (checkL L).1, .int .i64 0] 31)
  have hs1 := k1.size
  go_wp2_with fail
  generalize hW : w1.alloc (.cells #[.int .i64 (checkL L).1, .int .i64 0] 31) = W at *
  have hsW : w1.heap.size + 1 = W.heap.size := by rw [← hW]; simp
  have kM := (Keeps.refl (fun _ => False) W).alloc (.map #[] 0)
  have MI := MapI.new W
  have kR := (Keeps.refl (fun _ => False) (W.alloc (.map #[] 0))).alloc (.cells #[.slice none 0 0, .map (some W.heap.size), .bool false] 135)
  have bR := (MapKept.heap_alloc (W.alloc (.map #[] 0)) (.cells #[.slice none 0 0, .map (some W.heap.size), .bool false] 135)).1
  have hsM : (W.alloc (.map #[] 0)).heap.size = W.heap.size + 1 := by simp
  rw [hsM] at bR
  have hsR : W.heap.size + 2 ≤ ((W.alloc (.map #[] 0)).alloc (.cells #[.slice none 0 0, .map (some W.heap.size), .bool false] 135)).heap.size := by simp
  have R0 : Rec ((W.alloc (.map #[] 0)).alloc (.cells #[.slice none 0 0, .map (some W.heap.size), .bool false] 135)) (W.heap.size + 1) W.heap.size (W.heap.size + 2) (.slice none 0 0) false [] wt0 :=
    ⟨bR, (MI.keeps kR (fun f => f)).congr fun _ => rfl, ⟨OwnR.nilB _ _ _ _ _ hsR, Rws.nil _ _, fun g hg => by simp [Value.ownBlock] at hg⟩, rfl, by omega, by omega, by omega⟩
  have K0 := ((k1.trans ka).trans kM).trans kR
  have hwW : w.heap.size ≤ W.heap.size := by omega
  clear hsM hsR bR kR kM MI ka k1 hW hs1
  rw [← hsW] at R0 K0 hwW
  clear hsW
  generalize (W.alloc (.map #[] 0)).alloc (.cells #[.slice none 0 0, .map (some (w1.heap.size + 1)), .bool false] 135) = Z at *
  generalize w1.heap.size + 1 = mb at *
  go_loopw [20] (fun u wr => ∃ (k : Nat) (v : Value) (pl : Bool) (X : List Bx), u = .int .i64 k ∧ k ≤ L.length ∧ Hid (Rec wr (mb + 1) mb (mb + 2) v pl X (partsF wt0 (L.take k) 0)) ∧ Keeps (fun _ => False) w wr) (fun u _ => L.length - (intOf u).toNat)
  case atStart => exact ⟨0, _, _, [], rfl, Nat.zero_le _, R0, K0⟩
  case round =>
    clear R0 K0
    obtain ⟨k, v, pl, X, rfl, hk, hR, kr⟩ := hrel
    by_cases hlt : k < L.length
    · have hki : (k : Int) < L.length := by omega
      have hk0 : (0 : Int) ≤ k := by omega
      obtain ⟨g, off, rfl, x0, x1, x2, x3, x4, x5⟩ := (HV.out wr kr).at k hlt
      have hew := hwf _ (List.getElem_mem hlt)
      have hst := take_push hlt
      have kA := (Keeps.refl (fun _ => False) wr).alloc (.cells (L[k]).cells 60)
      have TK := wtake_any (mb + 1) mb (mb + 2) v pl X (partsF wt0 (L.take k) 0) k (L[k]) _ hew.2.2.2.1 (hR.out.keeps kA) (HP.out k hk) (by omega)
      rw [← hst] at TK
      clear hst hwf hew
      generalize hev : L[k]'hlt = e at *
      clear hev
      obtain ⟨th, kd, ad, wd, own, er⟩ := e
      dsimp only at x0 x1 x2 x3 x4 x5
      go_wp2_with fail
      refine TK.mono ?_
      rintro ex w2 ⟨rfl, v', pl', X', R2, k2⟩
      have HF : Hid (Rec w2 (mb + 1) mb (mb + 2) v' pl' X' (partsF wt0 (L.take (k + 1)) 0) ∧ Keeps (fun _ => False) w w2) := ⟨R2, (kr.trans kA).young k2 (fun q hq => by omega)⟩
      clear TK R2 k2 x0 x1 x2 x3 x4 x5 kA
      go_wp2_with fail
      go_roundw
      · exact ⟨k + 1, v', pl', X', by simp, by omega, HF.out.1, HF.out.2⟩
      · simp [intOf]; omega
    · obtain rfl : k = L.length := by omega
      have HF : Hid (GaPost L w (.returned (.tuple #[.pointer (some ⟨mb + 1, 0, none⟩), .int .i64 0])) wr) := by
        have R := hR.out
        rw [List.take_length] at R
        exact ⟨mb + 1, mb, mb + 2, v, pl, X, rfl, by omega, by omega, R.blk, R.row, R.eqs, kr⟩
      clear hR
      go_wp2_with fail
      go_ret2
      exact HF.out
end Go.Proofs.YthmiainhaebjiaaGreatDoor


/- Walks of Blocks, Ahead (package witness). No statement of the seat is proved here. -/
namespace Go.Proofs.YthmiainhaebjiaaGreatDoor
open Go.RowKit Go.Shelf

abbrev Bls (w : World) (base : Nat) (v : Value) (X : List Bx) : Prop := RwL Bx.cb 9 73 w base v X
theorem info_blk : (Tryz.prog.info? 73).map (fun i => (i.zero, i.size, i.bytes)) = some (some (.agg #[.int .i64 0, .int .i64 0, .int .i64 0, .int .i64 0, .int .u64 0, .bool false, .int .i64 0, .slice none 0 0, .slice none 0 0]), 9, 104) := by kernel_rfl
/-- What Blocks answers of a history that can be. -/
def BlPost (L : List Ev) (w : World) (ex : Ending) (w' : World) : Prop := ∃ (v : Value) (X : List Bx), ex = .returned (.tuple #[v, .int .i64 0]) ∧ Bls w' w.heap.size v X ∧ X.map (·.p) = partsL L ∧ Keeps (fun _ => False) w w'
set_option maxRecDepth 100000 in
set_option maxHeartbeats 8000000 in
theorem blocks_any (v : Value) (L : List Ev) (hL : L.length ≤ 1100000) (hz : (checkL L).2 = 0) (w : World) (hv : EvsAt w v L) (hg : Gv w) (h8 : 2 ≤ w.heap.size) : Calls Tryz.prog 42 #[v] w (BlPost L w) := by
  have GA := gather_any v L hL hz w hv hg h8
  have hlen : (partsL L).length ≤ L.length := (pinv_parts L).len
  obtain ⟨a, cap, rfl, hcap⟩ := hv.els.shape
  clear hv hg hz
  go_enter Tryz.func42, Tryz.ntmps42
  go_wp2_with fail
  refine GA.mono ?_
  rintro ex w1 ⟨rb, mb, bs, pv, pl, X, rfl, hrw, hrb, bR, PR, hX, k1⟩
  clear GA
  have hXl : X.length ≤ 1100000 := by rw [← List.length_map (f := (·.p)), hX]; omega
  obtain ⟨pa, pc, rfl⟩ := PR.own.form
  have cR : w1.cell? ⟨rb, 0, none⟩ = some (.slice pa X.length pc) := by rw [cell_of_block bR]; rfl
  have hs1 := k1.size
  have O0 := OwnR.nil Bx.cb 9 73 w1
  have HP : Hid (Prs w1 bs (.slice pa X.length pc) X ∧ X.map (·.p) = partsL L ∧ w.heap.size ≤ bs ∧ Keeps (fun _ => False) w w1) := ⟨PR, hX, by omega, k1⟩
  clear PR bR hX k1 hlen
  go_wp2_with fail
  go_loopw [6, 22] (fun u6 u wr => ∃ (k : Nat), u = .int .i64 k ∧ k ≤ X.length ∧ OwnR Bx.cb 9 73 wr w1.heap.size u6 (X.take k) ∧ Keeps (fun _ => False) w1 wr) (fun _ u _ => X.length - (intOf u).toNat)
  case atStart => exact ⟨0, rfl, Nat.zero_le _, O0, Keeps.refl _ _⟩
  case round =>
    clear O0
    obtain ⟨k, rfl, hk, hO, kr⟩ := hrel
    by_cases hlt : k < X.length
    · have hki : (k : Int) < X.length := by omega
      have hk0 : (0 : Int) ≤ k := by omega
      obtain ⟨g, off, rfl, hc⟩ := ((HP.out.1.own.els cp_len).keeps cp_ne kr).at k hlt
      have htk : X.take (k + 1) = X.take k ++ [X[k]] := List.take_succ_eq_append_getElem hlt
      have hub : (X.take k).length = k := by simp; omega
      obtain ⟨ub, uc, rfl⟩ := hO.form
      rw [hub] at hO ⊢
      generalize hx : X[k]'hlt = x at *
      clear hx
      obtain ⟨⟨pth, pkd, pfi, pla, pnu, pwr, per, prs, pws, psi, plk⟩, ⟨ra, rn, rc⟩, ⟨sa, sn, sc⟩⟩ := x
      have y0 := hc 0 _ rfl
      have y1 := hc 1 _ rfl
      have y2 := hc 2 _ rfl
      have y3 := hc 3 _ rfl
      have y4 := hc 4 _ rfl
      have y5 := hc 5 _ rfl
      have y6 := hc 6 _ rfl
      have y7 := hc 7 _ rfl
      have y8 := hc 8 _ rfl
      have y9 := hc 9 _ rfl
      have y10 := hc 10 _ rfl
      dsimp only at y0 y1 y2 y3 y4 y5 y6 y7 y8 y9 y10
      simp only [Nat.add_zero] at y0
      have kA := (Keeps.refl (fun _ => False) wr).alloc (.cells #[.int .i64 pth, .int .i64 pkd, .int .i64 pfi, .int .i64 pla, .int .u64 pnu, .bool pwr, .int .i64 per, .slice ra rn rc, .slice sa sn sc, .int .i64 psi, .bool plk] 137)
      obtain ⟨v', w3, r1, r2, r3⟩ := (hO.keeps kA (fun _ _ f => f)).push cb_len cb_one (by decide) Tryz.underlying65 info_blk rfl (by decide) (ty := 65) ⟨⟨pth, pkd, pfi, pla, pnu, pwr, per, prs, pws, psi, plk⟩, ⟨ra, rn, rc⟩, ⟨sa, sn, sc⟩⟩ (cs := #[.int .i64 pth, .int .i64 pkd, .int .i64 pfi, .int .i64 pla, .int .u64 pnu, .bool pwr, .int .i64 per, .slice ra rn rc, .slice sa sn sc]) rfl (by rw [hub]; omega)
      rw [← htk] at r2
      rw [show (wr.alloc (.cells #[.int .i64 pth, .int .i64 pkd, .int .i64 pfi, .int .i64 pla, .int .u64 pnu, .bool pwr, .int .i64 per, .slice ra rn rc, .slice sa sn sc, .int .i64 psi, .bool plk] 137)).heap.size = wr.heap.size + 1 by simp] at r1
      have K3 := OwnR.kept (Grew.ahead kA r3) kr (hO)
      obtain ⟨⟨ya, yn, yc⟩, rfl, -⟩ := sl_of r2
      have HA : Hid (_ = _) := r1
      have HF : Hid (OwnR Bx.cb 9 73 w3 w1.heap.size (.slice ya yn yc) (X.take (k + 1)) ∧ Keeps (fun _ => False) w1 w3) := ⟨r2, K3⟩
      clear hc r1 r2 r3 kA hO htk hub K3
      go_wp2_with (at_builtin; refine wpList_append_run rfl _ _ 65 rfl rfl rfl HA.out ?_)
      go_roundw
      · exact ⟨k + 1, by simp, by omega, HF.out⟩
      · simp [intOf]; omega
    · obtain rfl : k = X.length := by omega
      rw [List.take_length] at hO
      obtain ⟨ub, uc, rfl⟩ := hO.form
      have HF : Hid (BlPost L w (.returned (.tuple #[.slice ub X.length uc, .int .i64 0])) wr) := by
        obtain ⟨PR, hX, hb, k1⟩ := HP.out
        refine ⟨_, X, rfl, ⟨hO.low (by omega), (PR.rws.keeps kr (fun _ _ f => f)).low hb, fun g hg hq => ?_⟩, hX, k1.trans kr⟩
        have h1 := (own_block hO.own hg).2
        have h2 := (PR.rws.young hq).1
        omega
      clear hO
      go_wp2_with fail
      go_ret2
      exact HF.out
end Go.Proofs.YthmiainhaebjiaaGreatDoor


/- A map of rows. No statement of the seat is proved here. -/
namespace Go.Proofs.YthmiainhaebjiaaGreatDoor
open Go.RowKit Go.Shelf

theorem lookupS_of_mem {L : List (Int × Sl)} (hn : (L.map (·.1)).Nodup) {p : Int × Sl} (hp : p ∈ L) : L.lookup p.1 = some p.2 := by
  induction L with
  | nil => simp at hp
  | cons q L ih =>
    simp only [List.map_cons, List.nodup_cons] at hn
    rcases List.mem_cons.1 hp with rfl | hp2
    · obtain ⟨a, b⟩ := p; simp [List.lookup]
    · obtain ⟨a, b⟩ := q
      have : (p.1 == a) = false := by
        rw [beq_eq_false_iff_ne]
        rintro rfl
        exact hn.1 (List.mem_map.2 ⟨p, hp2, rfl⟩)
      rw [List.lookup, this]
      exact ih hn.2 hp2
theorem lookupS_of_not {L : List (Int × Sl)} {x : Int} (h : x ∉ L.map (·.1)) : L.lookup x = none := by
  rw [List.lookup_eq_none_iff]
  intro p hp
  simp only [bne_iff_ne, ne_eq]
  rintro rfl
  exact h (List.mem_map.2 ⟨p, hp, rfl⟩)
theorem lookupS_set : ∀ (L : List (Int × Sl)) (j : Nat) (a : Int) (x z : Sl), (L.map (·.1)).Nodup → L[j]? = some (a, z) → ∀ y, (L.set j (a, x)).lookup y = if y = a then some x else L.lookup y
  | [], j, a, x, z, _, h => by simp at h
  | (b, u) :: L, 0, a, x, z, _, h => by
    simp at h
    obtain ⟨rfl, rfl⟩ := h
    intro y
    by_cases hy : y = b
    · subst hy; simp
    · have : (y == b) = false := by simp [hy]
      simp [List.lookup, this, hy]
  | (b, u) :: L, j + 1, a, x, z, hn, h => by
    simp only [List.map_cons, List.nodup_cons] at hn
    simp at h
    intro y
    have ih := lookupS_set L j a x z hn.2 h y
    have hab : a ≠ b := by
      rintro rfl
      exact hn.1 (List.mem_map.2 ⟨(a, z), List.mem_of_getElem? h, rfl⟩)
    rw [List.set_cons_succ, List.lookup, List.lookup]
    by_cases hy : y = b
    · subst hy
      have : ¬ y = a := fun e => hab e.symm
      simp [this]
    · have : (y == b) = false := by simp [hy]
      rw [this]; exact ih
/-- Words in a map: which word stands at an address. -/
structure MapS (w : World) (b : Nat) (f : Int → Option Sl) : Prop where
  ex : ∃ (es : Array MapEntry) (clock : Nat) (L : List (Int × Sl)), w.heap[b]? = some (.map es clock) ∧ es.toList.map (fun x => (x.key, x.val)) = L.map (fun p => (numV p.1, p.2.v)) ∧ (L.map (·.1)).Nodup ∧ (∀ y, L.lookup y = f y) ∧ (∀ x ∈ es.toList, x.born < clock) ∧ (es.toList.map (·.born)).Nodup
theorem MapS.keeps {w w' : World} {S : Nat → Prop} {b : Nat} {f : Int → Option Sl} (h : MapS w b f) (k : Keeps S w w') (hs : ¬ S b) : MapS w' b f := by
  obtain ⟨es, clock, L, h1, h2⟩ := h.ex
  exact ⟨es, clock, L, (k.block b (lt_of_block h1) hs).trans h1, h2⟩
theorem MapS.lt {w : World} {b : Nat} {f : Int → Option Sl} (h : MapS w b f) : b < w.heap.size := by
  obtain ⟨es, clock, L, h1, h2⟩ := h.ex
  exact lt_of_block h1
theorem entS_mem {es : List MapEntry} {L : List (Int × Sl)} (h : es.map (fun x => (x.key, x.val)) = L.map (fun p => (numV p.1, p.2.v))) {j : Nat} {x : MapEntry} (hx : es[j]? = some x) : ∃ p, L[j]? = some p ∧ x.key = numV p.1 ∧ x.val = p.2.v := by
  have h1 : (es.map (fun x => (x.key, x.val)))[j]? = some (x.key, x.val) := by rw [List.getElem?_map, hx]; rfl
  rw [h, List.getElem?_map] at h1
  obtain ⟨p, hp, he⟩ := Option.map_eq_some_iff.1 h1
  exact ⟨p, hp, (Prod.mk.inj he).1.symm, (Prod.mk.inj he).2.symm⟩
theorem entS_keys {es : List MapEntry} {L : List (Int × Sl)} (h : es.map (fun x => (x.key, x.val)) = L.map (fun p => (numV p.1, p.2.v))) : ∀ x ∈ es, MapKept.IsKey (.int .u64) x.key := fun x hx => by
  obtain ⟨j, hj⟩ := List.getElem?_of_mem hx
  obtain ⟨p, _, h1, _⟩ := entS_mem h hj
  rw [h1]; rfl
theorem born_modify (es : Array MapEntry) (j : Nat) (g : MapEntry → MapEntry) (hg : ∀ e, (g e).born = e.born) : (es.modify j g).toList.map (·.born) = es.toList.map (·.born) := by
  apply List.ext_getElem?
  intro i
  simp only [List.getElem?_map, Array.getElem?_toList, Array.getElem?_modify]
  by_cases hi : j = i
  · subst hi
    cases h : es[j]? with
    | none => simp
    | some e => simp [hg]
  · simp [hi]
/-- What a look into the map tells. -/
def lookS (f : Int → Option Sl) (a : Int) : Value := .tuple #[((f a).getD sl0).v, .bool (f a).isSome]
theorem MapS.look {w : World} {b : Nat} {f : Int → Option Sl} (h : MapS w b f) (a : Int) : (Instr.lookup 66 (.map (some b)) (.int .u64 a) true).run Tryz.prog w = .ok (lookS f a) w := by
  obtain ⟨es, clock, L, h1, h2, h3, h4, -⟩ := h.ex
  have hk : MapKept.IsKey (.int .u64) (numV a) := rfl
  have hgo := MapKept.run_getObj_map (P := Tryz.prog) h1
  have hck := fun e => MapKept.run_checkKey (P := Tryz.prog) (w := w) Tryz.underlying26 hk e 9999
  unfold lookS
  rw [← h4 a]
  rcases MapKept.findNow_spec hk es.toList 0 (entS_keys h2) with ⟨f1, f2⟩ | ⟨j, e, f1, f2, f3⟩
  · have hx : a ∉ L.map (·.1) := fun hm => by
      obtain ⟨p, hp, rfl⟩ := List.mem_map.1 hm
      have : (numV p.1, p.2.v) ∈ es.toList.map (fun x => (x.key, x.val)) := by rw [h2]; exact List.mem_map.2 ⟨p, hp, rfl⟩
      obtain ⟨y, hy, he⟩ := List.mem_map.1 this
      exact f2 y hy (Prod.mk.inj he).1
    have hf := MapKept.run_findKey (P := Tryz.prog) (w := w) Tryz.underlying26 f1
    rw [lookupS_of_not hx]
    simp only [numV] at hck hf
    simp [Instr.lookup, run_underlying Tryz.underlying66, hgo, hck, hf, Result.andThen, go_sem, sl0]
  · have hf := MapKept.run_findKey (P := Tryz.prog) (w := w) Tryz.underlying26 f1
    obtain ⟨p, hp, e1, e2⟩ := entS_mem h2 f2
    have : a = p.1 := numV_inj (f3.symm.trans e1)
    rw [this, lookupS_of_mem h3 (List.mem_of_getElem? hp)]
    simp only [numV, this] at hck hf e2
    simp [Instr.lookup, run_underlying Tryz.underlying66, hgo, hck, hf, Result.andThen, e2]
/-- A word more. -/
theorem MapS.put {w : World} {b : Nat} {f : Int → Option Sl} (h : MapS w b f) (a : Int) (x : Sl) :
    ∃ w', (Instr.mapUpdate 66 (.map (some b)) (.int .u64 a) x.v).run Tryz.prog w = .ok () w' ∧ MapS w' b (fun y => if y = a then some x else f y) ∧ Keeps (fun k => k = b) w w' := by
  obtain ⟨es, clock, L, h1, h2, h3, h4, h5, h6⟩ := h.ex
  have hk : MapKept.IsKey (.int .u64) (numV a) := rfl
  have hgo := MapKept.run_getObj_map (P := Tryz.prog) h1
  have hck := fun e => MapKept.run_checkKey (P := Tryz.prog) (w := w) Tryz.underlying26 hk e 9999
  rcases MapKept.findNow_spec hk es.toList 0 (entS_keys h2) with ⟨f1, f2⟩ | ⟨j, e, f1, f2, f3⟩
  · have hf := MapKept.run_findKey (P := Tryz.prog) (w := w) Tryz.underlying26 f1
    have hx : a ∉ L.map (·.1) := fun hm => by
      obtain ⟨p, hp, rfl⟩ := List.mem_map.1 hm
      have : (numV p.1, p.2.v) ∈ es.toList.map (fun x => (x.key, x.val)) := by rw [h2]; exact List.mem_map.2 ⟨p, hp, rfl⟩
      obtain ⟨y, hy, he⟩ := List.mem_map.1 this
      exact f2 y hy (Prod.mk.inj he).1
    have hso := MapKept.run_setObj_map (P := Tryz.prog) (.map (es.push { key := numV a, val := x.v, born := clock }) (clock + 1)) h1
    refine ⟨{ w with heap := w.heap.setIfInBounds b (.map (es.push { key := numV a, val := x.v, born := clock }) (clock + 1)) }, ?_, ⟨_, _, L ++ [(a, x)], (MapKept.heap_set h1).1, ?_, ?_, ?_, ?_, ?_⟩, ?_⟩
    · simp only [numV] at hck hf hso
      simp [Instr.mapUpdate, run_underlying Tryz.underlying66, hgo, hck, hf, hso, Result.andThen, numV]
    · simp [h2]
    · rw [List.map_append, List.nodup_append]
      refine ⟨h3, by simp, ?_⟩
      intro u hu v hv
      simp only [List.map_cons, List.map_nil, List.mem_singleton] at hv
      subst hv
      rintro rfl
      exact hx hu
    · intro y
      rw [List.lookup_append, h4]
      by_cases hy : y = a
      · subst hy; rw [← h4, lookupS_of_not hx]; simp [List.lookup]
      · have : (y == a) = false := by simp [hy]
        simp [List.lookup, this, hy]
    · intro y hy
      simp only [Array.toList_push, List.mem_append, List.mem_singleton] at hy
      rcases hy with hy | rfl
      · have := h5 y hy; omega
      · simp
    · rw [Array.toList_push, List.map_append, List.nodup_append]
      refine ⟨h6, by simp, fun u hu v hv => ?_⟩
      obtain ⟨y, hy, rfl⟩ := List.mem_map.1 hu
      simp only [List.map_cons, List.map_nil, List.mem_singleton] at hv
      have := h5 y hy
      omega
    · refine ⟨rfl, rfl, rfl, by simp, fun k hk hs => ?_⟩
      exact (MapKept.heap_set h1).2 k hs
  · have hf := MapKept.run_findKey (P := Tryz.prog) (w := w) Tryz.underlying26 f1
    obtain ⟨p, hp, e1, e2⟩ := entS_mem h2 f2
    have hap : a = p.1 := numV_inj (f3.symm.trans e1)
    have hso := MapKept.run_setObj_map (P := Tryz.prog) (.map (es.modify j fun e => { e with key := numV a, val := x.v }) clock) h1
    have hej : es[j]? = some e := by simpa using f2
    have hsb : Instr.sameBits 10000 (Value.int .u64 a) (Value.int .u64 a) = true := by rw [show (10000 : Nat) = 9999 + 1 from rfl, Instr.sameBits]; simp
    refine ⟨{ w with heap := w.heap.setIfInBounds b (.map (es.modify j fun e => { e with key := numV a, val := x.v }) clock) }, ?_, ⟨_, _, L.set j (a, x), (MapKept.heap_set h1).1, ?_, ?_, ?_, ?_, ?_⟩, ?_⟩
    · simp only [numV] at hck hf hso f3
      simp [Instr.mapUpdate, run_underlying Tryz.underlying66, hgo, hck, hf, hso, Result.andThen, hej, f3, Instr.keyThatStays, hsb, numV]
    · apply List.ext_getElem?
      intro i
      have hl := congrArg (fun l : List (Value × Value) => l[i]?) h2
      simp only [List.getElem?_map] at hl ⊢
      rw [List.getElem?_set]
      by_cases hi : j = i
      · subst hi
        have hjl : j < L.length := (List.getElem?_eq_some_iff.1 hp).1
        simp [hej, hjl]
      · simp only [hi, if_false]
        rw [← hl]
        simp [hi]
    · have : (L.set j (a, x)).map (·.1) = L.map (·.1) := by
        apply List.ext_getElem?
        intro i
        simp only [List.getElem?_map, List.getElem?_set]
        by_cases hi : j = i
        · subst hi
          have hjl : j < L.length := (List.getElem?_eq_some_iff.1 hp).1
          simp only [if_true, hjl, Option.map_some]
          rw [hp, hap]; rfl
        · simp [hi]
      rw [this]; exact h3
    · intro y
      rw [lookupS_set L j a x p.2 h3 (by rw [hp, hap]) y, h4]
    · intro y hy
      have hb := born_modify es j (fun e => { e with key := numV a, val := x.v }) (fun _ => rfl)
      have hm : y.born ∈ (es.modify j fun e => { e with key := numV a, val := x.v }).toList.map (·.born) := List.mem_map.2 ⟨y, hy, rfl⟩
      rw [hb] at hm
      obtain ⟨z, hz, hzb⟩ := List.mem_map.1 hm
      have := h5 z hz
      omega
    · rw [born_modify es j (fun e => { e with key := numV a, val := x.v }) (fun _ => rfl)]
      exact h6
    · refine ⟨rfl, rfl, rfl, by simp, fun k hk hs => ?_⟩
      exact (MapKept.heap_set h1).2 k hs
end Go.Proofs.YthmiainhaebjiaaGreatDoor
