/-
  No statement of the seat is proved here. (Several texts in one: WiL, WiM, OpB.)
-/
import Derived.Test.YtjmmjkoloioddaaDoorM09WiF
import Derived.Test.YtjmmjkoloioddaaDoorM04EvBb
import Derived.Test.YtjmmjkoloioddaaDoorM03EvE

/- Walks of gather, Blocks, Ahead (package witness). No statement of the seat is proved here. -/
namespace Go.Proofs.YtjmmjkoloioddaaDoor
open Go.RowKit Go.Shelf

@[go_sem] theorem run_mkMapI (w : World) : (Instr.makeMap 100 none).run Tryd.prog w = .ok (.map (some w.heap.size)) (w.alloc (.map #[] 0)) := by
  simp [Instr.makeMap, Result.andThen]
/-- What gather answers of a history that can be. -/
def GaPost (L : List Ev) (w : World) (ex : Ending) (w' : World) : Prop :=
  ∃ (rb mb bs : Nat) (v : Value) (pl : Bool) (X : List Bx), ex = .returned (.tuple #[.pointer (some ⟨rb, 0, none⟩), .int .i64 0]) ∧ w.heap.size ≤ rb ∧ rb < bs ∧ w'.heap[rb]? = some (.cells #[v, .map (some mb), .bool pl] 102 (0, 0)) ∧ Prs w' bs v X ∧ X.map (·.p) = partsL L ∧ Keeps (fun _ => False) w w'
theorem take_push {L : List Ev} {k : Nat} (hk : k < L.length) : partsF wt0 (L.take (k + 1)) 0 = stepW (partsF wt0 (L.take k) 0) k (L[k]) := by
  rw [List.take_succ_eq_append_getElem hk, parts_push]
  simp [Nat.min_eq_left (Nat.le_of_lt hk)]
set_option maxRecDepth 100000 in
set_option maxHeartbeats 8000000 in
theorem gather_any (v : Value) (L : List Ev) (hL : L.length ≤ 1100000) (hz : (checkL L).2 = 0) (w : World) (hv : EvsAt w v L) (hg : Gv w) (h8 : 2 ≤ w.heap.size) : Calls Tryd.prog 43 #[v] w (GaPost L w) := by
  have CK := check_any v L w hv hg h8
  have hwf := hv.wf
  have HV : Hid (∀ X, Keeps (fun _ => False) w X → EvsAt X v L) := fun X k => hv.keeps k
  obtain ⟨a, cap, rfl, hcap⟩ := hv.els.shape
  clear hv hg
  rw [hz] at CK
  unfold odV at CK
  have HP : Hid (∀ k, k ≤ L.length → PInv (partsF wt0 (L.take k) 0) k) := fun k hk => by
    have := pinv_parts (L.take k)
    rwa [List.length_take, Nat.min_eq_left hk] at this
  clear hz
  go_enter Tryd.func43, Tryd.ntmps43
  go_wp2_with fail
  refine CK.mono ?_
  rintro ex w1 ⟨rfl, k1⟩
  clear CK
  have ka := (Keeps.refl (fun _ => False) w1).alloc (.cells #[.int .i64 (checkL L).1, .int .i64 0] 28)
  have hs1 := k1.size
  go_wp2_with fail
  generalize hW : w1.alloc (.cells #[.int .i64 (checkL L).1, .int .i64 0] 28) = W at *
  have hsW : w1.heap.size + 1 = W.heap.size := by rw [← hW]; simp
  have kM := (Keeps.refl (fun _ => False) W).alloc (.map #[] 0)
  have MI := MapI.new W
  have kR := (Keeps.refl (fun _ => False) (W.alloc (.map #[] 0))).alloc (.cells #[.slice none 0 0, .map (some W.heap.size), .bool false] 102)
  have bR := (MapKept.heap_alloc (W.alloc (.map #[] 0)) (.cells #[.slice none 0 0, .map (some W.heap.size), .bool false] 102)).1
  have hsM : (W.alloc (.map #[] 0)).heap.size = W.heap.size + 1 := by simp
  rw [hsM] at bR
  have hsR : W.heap.size + 2 ≤ ((W.alloc (.map #[] 0)).alloc (.cells #[.slice none 0 0, .map (some W.heap.size), .bool false] 102)).heap.size := by simp
  have R0 : Rec ((W.alloc (.map #[] 0)).alloc (.cells #[.slice none 0 0, .map (some W.heap.size), .bool false] 102)) (W.heap.size + 1) W.heap.size (W.heap.size + 2) (.slice none 0 0) false [] wt0 :=
    ⟨bR, (MI.keeps kR (fun f => f)).congr fun _ => rfl, ⟨OwnR.nilB _ _ _ _ _ hsR, Rws.nil _ _, fun g hg => by simp [Value.ownBlock] at hg⟩, rfl, by omega, by omega, by omega⟩
  have K0 := ((k1.trans ka).trans kM).trans kR
  have hwW : w.heap.size ≤ W.heap.size := by omega
  clear hsM hsR bR kR kM MI ka k1 hW hs1
  rw [← hsW] at R0 K0 hwW
  clear hsW
  generalize (W.alloc (.map #[] 0)).alloc (.cells #[.slice none 0 0, .map (some (w1.heap.size + 1)), .bool false] 102) = Z at *
  generalize w1.heap.size + 1 = mb at *
  go_loopw [20] (fun u wr => ∃ (k : Nat) (v : Value) (pl : Bool) (X : List Bx), u = .int .i64 k ∧ k ≤ L.length ∧ Hid (Rec wr (mb + 1) mb (mb + 2) v pl X (partsF wt0 (L.take k) 0)) ∧ Keeps (fun _ => False) w wr) (fun u _ => L.length - (intOf u).toNat)
  case atStart => exact ⟨0, _, _, [], rfl, Nat.zero_le _, R0, K0⟩
  case round =>
    clear R0 K0
    obtain ⟨k, v, pl, X, rfl, hk, hR, kr⟩ := hrel
    by_cases hlt : k < L.length
    · have hki : (k : Int) < L.length := by omega
      have hk0 : (0 : Int) ≤ k := by omega
      obtain ⟨g, off, rfl, x0, x1, x2, x3, x4, x5⟩ := (HV.out wr kr).at k hlt
      have hew := hwf _ (List.getElem_mem hlt)
      have hst := take_push hlt
      have kA := (Keeps.refl (fun _ => False) wr).alloc (.cells (L[k]).cells 44)
      have TK := wtake_any (mb + 1) mb (mb + 2) v pl X (partsF wt0 (L.take k) 0) k (L[k]) _ hew.2.2.2.1 (hR.out.keeps kA) (HP.out k hk) (by omega)
      rw [← hst] at TK
      clear hst hwf hew
      generalize hev : L[k]'hlt = e at *
      clear hev
      obtain ⟨th, kd, ad, wd, own, er⟩ := e
      dsimp only at x0 x1 x2 x3 x4 x5
      go_wp2_with fail
      refine TK.mono ?_
      rintro ex w2 ⟨rfl, v', pl', X', R2, k2⟩
      have HF : Hid (Rec w2 (mb + 1) mb (mb + 2) v' pl' X' (partsF wt0 (L.take (k + 1)) 0) ∧ Keeps (fun _ => False) w w2) := ⟨R2, (kr.trans kA).young k2 (fun q hq => by omega)⟩
      clear TK R2 k2 x0 x1 x2 x3 x4 x5 kA
      go_wp2_with fail
      go_roundw
      · exact ⟨k + 1, v', pl', X', by simp, by omega, HF.out.1, HF.out.2⟩
      · simp [intOf]; omega
    · obtain rfl : k = L.length := by omega
      have HF : Hid (GaPost L w (.returned (.tuple #[.pointer (some ⟨mb + 1, 0, none⟩), .int .i64 0])) wr) := by
        have R := hR.out
        rw [List.take_length] at R
        exact ⟨mb + 1, mb, mb + 2, v, pl, X, rfl, by omega, by omega, R.blk, R.row, R.eqs, kr⟩
      clear hR
      go_wp2_with fail
      go_ret2
      exact HF.out
set_option maxRecDepth 100000 in
set_option maxHeartbeats 8000000 in
theorem gather_no (v : Value) (L : List Ev) (hz : (checkL L).2 ≠ 0) (w : World) (hv : EvsAt w v L) (hg : Gv w) (h8 : 2 ≤ w.heap.size) : Calls Tryd.prog 43 #[v] w fun ex w' => ex = .returned (.tuple #[.pointer none, .int .i64 (checkL L).2]) ∧ Keeps (fun _ => False) w w' := by
  have CK := check_any v L w hv hg h8
  obtain ⟨a, cap, rfl, hcap⟩ := hv.els.shape
  clear hv hg
  generalize checkL L = c at *
  obtain ⟨c1, c2⟩ := c
  dsimp only at hz
  unfold odV at CK
  dsimp only at CK ⊢
  have hzb : (c2 == 0) = false := by rw [beq_eq_false_iff_ne]; exact hz
  have hzn : (c2 != 0) = true := by rw [bne_iff_ne]; exact hz
  go_enter Tryd.func43, Tryd.ntmps43
  go_wp2_with fail
  refine CK.mono ?_
  rintro ex w1 ⟨rfl, k1⟩
  have ka := (Keeps.refl (fun _ => False) w1).alloc (.cells #[.int .i64 c1, .int .i64 c2] 28)
  have ba := (MapKept.heap_alloc w1 (.cells #[.int .i64 c1, .int .i64 c2] 28)).1
  clear CK
  go_wp2_with fail
  generalize w1.alloc (.cells #[.int .i64 c1, .int .i64 c2] 28) = V at *
  have c1' : V.cell? ⟨w1.heap.size, 1, none⟩ = some (.int .i64 c2) := by rw [cell_of_block ba]; rfl
  go_region_held3 (fun W : World => W.cell? ⟨w1.heap.size, 1, none⟩ = some (.int .i64 c2)) (first | assumption | go_keep) (fail)
  go_wp2_with fail
  go_ret2
  exact ⟨rfl, (k1.trans ka).drew⟩
end Go.Proofs.YtjmmjkoloioddaaDoor


/- Walks of Blocks, Ahead (package witness). No statement of the seat is proved here. -/
namespace Go.Proofs.YtjmmjkoloioddaaDoor
open Go.RowKit Go.Shelf

abbrev Bls (w : World) (base : Nat) (v : Value) (X : List Bx) : Prop := RwL Bx.cb 9 81 w base v X
theorem info_blk : (Tryd.prog.info? 81).map (fun i => (i.zero, i.size, i.bytes)) = some (some (.agg #[.int .i64 0, .int .i64 0, .int .i64 0, .int .i64 0, .int .u64 0, .bool false, .int .i64 0, .slice none 0 0, .slice none 0 0]), 9, 104) := by kernel_rfl
/-- What Blocks answers of a history that can be. -/
def BlPost (L : List Ev) (w : World) (ex : Ending) (w' : World) : Prop := ∃ (v : Value) (X : List Bx), ex = .returned (.tuple #[v, .int .i64 0]) ∧ Bls w' w.heap.size v X ∧ X.map (·.p) = partsL L ∧ Keeps (fun _ => False) w w'
set_option maxRecDepth 100000 in
set_option maxHeartbeats 8000000 in
theorem blocks_any (v : Value) (L : List Ev) (hL : L.length ≤ 1100000) (hz : (checkL L).2 = 0) (w : World) (hv : EvsAt w v L) (hg : Gv w) (h8 : 2 ≤ w.heap.size) : Calls Tryd.prog 30 #[v] w (BlPost L w) := by
  have GA := gather_any v L hL hz w hv hg h8
  have hlen : (partsL L).length ≤ L.length := (pinv_parts L).len
  obtain ⟨a, cap, rfl, hcap⟩ := hv.els.shape
  clear hv hg hz
  go_enter Tryd.func30, Tryd.ntmps30
  go_wp2_with fail
  refine GA.mono ?_
  rintro ex w1 ⟨rb, mb, bs, pv, pl, X, rfl, hrw, hrb, bR, PR, hX, k1⟩
  clear GA
  have hXl : X.length ≤ 1100000 := by rw [← List.length_map (f := (·.p)), hX]; omega
  obtain ⟨pa, pc, rfl⟩ := PR.own.form
  have cR : w1.cell? ⟨rb, 0, none⟩ = some (.slice pa X.length pc) := by rw [cell_of_block bR]; rfl
  have hs1 := k1.size
  have O0 := OwnR.nil Bx.cb 9 81 w1
  have HP : Hid (Prs w1 bs (.slice pa X.length pc) X ∧ X.map (·.p) = partsL L ∧ w.heap.size ≤ bs ∧ Keeps (fun _ => False) w w1) := ⟨PR, hX, by omega, k1⟩
  clear PR bR hX k1 hlen
  go_wp2_with fail
  go_loopw [6, 22] (fun u6 u wr => ∃ (k : Nat), u = .int .i64 k ∧ k ≤ X.length ∧ OwnR Bx.cb 9 81 wr w1.heap.size u6 (X.take k) ∧ Keeps (fun _ => False) w1 wr) (fun _ u _ => X.length - (intOf u).toNat)
  case atStart => exact ⟨0, rfl, Nat.zero_le _, O0, Keeps.refl _ _⟩
  case round =>
    clear O0
    obtain ⟨k, rfl, hk, hO, kr⟩ := hrel
    by_cases hlt : k < X.length
    · have hki : (k : Int) < X.length := by omega
      have hk0 : (0 : Int) ≤ k := by omega
      obtain ⟨g, off, rfl, hc⟩ := ((HP.out.1.own.els cp_len).keeps cp_ne kr).at k hlt
      have htk : X.take (k + 1) = X.take k ++ [X[k]] := List.take_succ_eq_append_getElem hlt
      have hub : (X.take k).length = k := by simp; omega
      obtain ⟨ub, uc, rfl⟩ := hO.form
      rw [hub] at hO ⊢
      generalize hx : X[k]'hlt = x at *
      clear hx
      obtain ⟨⟨pth, pkd, pfi, pla, pnu, pwr, per, prs, pws, psi, plk⟩, ⟨ra, rn, rc⟩, ⟨sa, sn, sc⟩⟩ := x
      have y0 := hc 0 _ rfl
      have y1 := hc 1 _ rfl
      have y2 := hc 2 _ rfl
      have y3 := hc 3 _ rfl
      have y4 := hc 4 _ rfl
      have y5 := hc 5 _ rfl
      have y6 := hc 6 _ rfl
      have y7 := hc 7 _ rfl
      have y8 := hc 8 _ rfl
      have y9 := hc 9 _ rfl
      have y10 := hc 10 _ rfl
      dsimp only at y0 y1 y2 y3 y4 y5 y6 y7 y8 y9 y10
      simp only [Nat.add_zero] at y0
      have kA := (Keeps.refl (fun _ => False) wr).alloc (.cells #[.int .i64 pth, .int .i64 pkd, .int .i64 pfi, .int .i64 pla, .int .u64 pnu, .bool pwr, .int .i64 per, .slice ra rn rc, .slice sa sn sc, .int .i64 psi, .bool plk] 104)
      obtain ⟨v', w3, r1, r2, r3⟩ := (hO.keeps kA (fun _ _ f => f)).push cb_len cb_one (by decide) Tryd.underlying68 info_blk rfl (by decide) (ty := 68) ⟨⟨pth, pkd, pfi, pla, pnu, pwr, per, prs, pws, psi, plk⟩, ⟨ra, rn, rc⟩, ⟨sa, sn, sc⟩⟩ (cs := #[.int .i64 pth, .int .i64 pkd, .int .i64 pfi, .int .i64 pla, .int .u64 pnu, .bool pwr, .int .i64 per, .slice ra rn rc, .slice sa sn sc]) rfl (by rw [hub]; omega)
      rw [← htk] at r2
      rw [show (wr.alloc (.cells #[.int .i64 pth, .int .i64 pkd, .int .i64 pfi, .int .i64 pla, .int .u64 pnu, .bool pwr, .int .i64 per, .slice ra rn rc, .slice sa sn sc, .int .i64 psi, .bool plk] 104)).heap.size = wr.heap.size + 1 by simp] at r1
      have K3 := OwnR.kept (Grew.ahead kA r3) kr (hO)
      obtain ⟨⟨ya, yn, yc⟩, rfl, -⟩ := sl_of r2
      have HA : Hid (_ = _) := r1
      have HF : Hid (OwnR Bx.cb 9 81 w3 w1.heap.size (.slice ya yn yc) (X.take (k + 1)) ∧ Keeps (fun _ => False) w1 w3) := ⟨r2, K3⟩
      clear hc r1 r2 r3 kA hO htk hub K3
      go_wp2_with (at_builtin; refine wpList_append_run rfl _ _ 68 rfl rfl rfl HA.out ?_)
      go_roundw
      · exact ⟨k + 1, by simp, by omega, HF.out⟩
      · simp [intOf]; omega
    · obtain rfl : k = X.length := by omega
      rw [List.take_length] at hO
      obtain ⟨ub, uc, rfl⟩ := hO.form
      have HF : Hid (BlPost L w (.returned (.tuple #[.slice ub X.length uc, .int .i64 0])) wr) := by
        obtain ⟨PR, hX, hb, k1⟩ := HP.out
        refine ⟨_, X, rfl, ⟨hO.low (by omega), (PR.rws.keeps kr (fun _ _ f => f)).low hb, fun g hg hq => ?_⟩, hX, k1.trans kr⟩
        have h1 := (own_block hO.own hg).2
        have h2 := (PR.rws.young hq).1
        omega
      clear hO
      go_wp2_with fail
      go_ret2
      exact HF.out
set_option maxRecDepth 100000 in
set_option maxHeartbeats 8000000 in
theorem blocks_no (v : Value) (L : List Ev) (hz : (checkL L).2 ≠ 0) (w : World) (hv : EvsAt w v L) (hg : Gv w) (h8 : 2 ≤ w.heap.size) : Calls Tryd.prog 30 #[v] w fun ex w' => ex = .returned (.tuple #[.slice none 0 0, .int .i64 (checkL L).2]) ∧ Keeps (fun _ => False) w w' := by
  have GA := gather_no v L hz w hv hg h8
  obtain ⟨a, cap, rfl, hcap⟩ := hv.els.shape
  clear hv hg
  generalize (checkL L).2 = c2 at *
  have hzb : (c2 == 0) = false := by rw [beq_eq_false_iff_ne]; exact hz
  have hzn : (c2 != 0) = true := by rw [bne_iff_ne]; exact hz
  go_enter Tryd.func30, Tryd.ntmps30
  go_wp2_with fail
  refine GA.mono ?_
  rintro ex w1 ⟨rfl, k1⟩
  clear GA
  go_wp2_with fail
  go_ret2
  exact ⟨rfl, k1⟩
end Go.Proofs.YtjmmjkoloioddaaDoor


/- A map of rows. No statement of the seat is proved here. -/
namespace Go.Proofs.YtjmmjkoloioddaaDoor
open Go.RowKit Go.Shelf

theorem lookupS_of_mem {L : List (Int × Sl)} (hn : (L.map (·.1)).Nodup) {p : Int × Sl} (hp : p ∈ L) : L.lookup p.1 = some p.2 := by
  induction L with
  | nil => simp at hp
  | cons q L ih =>
    simp only [List.map_cons, List.nodup_cons] at hn
    rcases List.mem_cons.1 hp with rfl | hp2
    · obtain ⟨a, b⟩ := p; simp [List.lookup]
    · obtain ⟨a, b⟩ := q
      have : (p.1 == a) = false := by
        rw [beq_eq_false_iff_ne]
        rintro rfl
        exact hn.1 (List.mem_map.2 ⟨p, hp2, rfl⟩)
      rw [List.lookup, this]
      exact ih hn.2 hp2
theorem lookupS_of_not {L : List (Int × Sl)} {x : Int} (h : x ∉ L.map (·.1)) : L.lookup x = none := by
  rw [List.lookup_eq_none_iff]
  intro p hp
  simp only [bne_iff_ne, ne_eq]
  rintro rfl
  exact h (List.mem_map.2 ⟨p, hp, rfl⟩)
theorem lookupS_set : ∀ (L : List (Int × Sl)) (j : Nat) (a : Int) (x z : Sl), (L.map (·.1)).Nodup → L[j]? = some (a, z) → ∀ y, (L.set j (a, x)).lookup y = if y = a then some x else L.lookup y
  | [], j, a, x, z, _, h => by simp at h
  | (b, u) :: L, 0, a, x, z, _, h => by
    simp at h
    obtain ⟨rfl, rfl⟩ := h
    intro y
    by_cases hy : y = b
    · subst hy; simp
    · have : (y == b) = false := by simp [hy]
      simp [List.lookup, this, hy]
  | (b, u) :: L, j + 1, a, x, z, hn, h => by
    simp only [List.map_cons, List.nodup_cons] at hn
    simp at h
    intro y
    have ih := lookupS_set L j a x z hn.2 h y
    have hab : a ≠ b := by
      rintro rfl
      exact hn.1 (List.mem_map.2 ⟨(a, z), List.mem_of_getElem? h, rfl⟩)
    rw [List.set_cons_succ, List.lookup, List.lookup]
    by_cases hy : y = b
    · subst hy
      have : ¬ y = a := fun e => hab e.symm
      simp [this]
    · have : (y == b) = false := by simp [hy]
      rw [this]; exact ih
/-- Words in a map: which word stands at an address. -/
structure MapS (w : World) (b : Nat) (f : Int → Option Sl) : Prop where
  ex : ∃ (es : Array MapEntry) (clock : Nat) (L : List (Int × Sl)), w.heap[b]? = some (.map es clock) ∧ es.toList.map (fun x => (x.key, x.val)) = L.map (fun p => (numV p.1, p.2.v)) ∧ (L.map (·.1)).Nodup ∧ (∀ y, L.lookup y = f y)
theorem MapS.keeps {w w' : World} {S : Nat → Prop} {b : Nat} {f : Int → Option Sl} (h : MapS w b f) (k : Keeps S w w') (hs : ¬ S b) : MapS w' b f := by
  obtain ⟨es, clock, L, h1, h2⟩ := h.ex
  exact ⟨es, clock, L, (k.block b (lt_of_block h1) hs).trans h1, h2⟩
theorem MapS.lt {w : World} {b : Nat} {f : Int → Option Sl} (h : MapS w b f) : b < w.heap.size := by
  obtain ⟨es, clock, L, h1, h2⟩ := h.ex
  exact lt_of_block h1
theorem entS_mem {es : List MapEntry} {L : List (Int × Sl)} (h : es.map (fun x => (x.key, x.val)) = L.map (fun p => (numV p.1, p.2.v))) {j : Nat} {x : MapEntry} (hx : es[j]? = some x) : ∃ p, L[j]? = some p ∧ x.key = numV p.1 ∧ x.val = p.2.v := by
  have h1 : (es.map (fun x => (x.key, x.val)))[j]? = some (x.key, x.val) := by rw [List.getElem?_map, hx]; rfl
  rw [h, List.getElem?_map] at h1
  obtain ⟨p, hp, he⟩ := Option.map_eq_some_iff.1 h1
  exact ⟨p, hp, (Prod.mk.inj he).1.symm, (Prod.mk.inj he).2.symm⟩
theorem entS_keys {es : List MapEntry} {L : List (Int × Sl)} (h : es.map (fun x => (x.key, x.val)) = L.map (fun p => (numV p.1, p.2.v))) : ∀ x ∈ es, MapKept.IsKey (.int .u64) x.key := fun x hx => by
  obtain ⟨j, hj⟩ := List.getElem?_of_mem hx
  obtain ⟨p, _, h1, _⟩ := entS_mem h hj
  rw [h1]; rfl
/-- What a look into the map tells. -/
def lookS (f : Int → Option Sl) (a : Int) : Value := .tuple #[((f a).getD sl0).v, .bool (f a).isSome]
theorem MapS.look {w : World} {b : Nat} {f : Int → Option Sl} (h : MapS w b f) (a : Int) : (Instr.lookup 67 (.map (some b)) (.int .u64 a) true).run Tryd.prog w = .ok (lookS f a) w := by
  obtain ⟨es, clock, L, h1, h2, h3, h4⟩ := h.ex
  have hk : MapKept.IsKey (.int .u64) (numV a) := rfl
  have hgo := MapKept.run_getObj_map (P := Tryd.prog) h1
  have hck := fun e => MapKept.run_checkKey (P := Tryd.prog) (w := w) Tryd.underlying35 hk e 9999
  unfold lookS
  rw [← h4 a]
  rcases MapKept.findNow_spec hk es.toList 0 (entS_keys h2) with ⟨f1, f2⟩ | ⟨j, e, f1, f2, f3⟩
  · have hx : a ∉ L.map (·.1) := fun hm => by
      obtain ⟨p, hp, rfl⟩ := List.mem_map.1 hm
      have : (numV p.1, p.2.v) ∈ es.toList.map (fun x => (x.key, x.val)) := by rw [h2]; exact List.mem_map.2 ⟨p, hp, rfl⟩
      obtain ⟨y, hy, he⟩ := List.mem_map.1 this
      exact f2 y hy (Prod.mk.inj he).1
    have hf := MapKept.run_findKey (P := Tryd.prog) (w := w) Tryd.underlying35 f1
    rw [lookupS_of_not hx]
    simp only [numV] at hck hf
    simp [Instr.lookup, run_underlying Tryd.underlying67, hgo, hck, hf, Result.andThen, go_sem, sl0]
  · have hf := MapKept.run_findKey (P := Tryd.prog) (w := w) Tryd.underlying35 f1
    obtain ⟨p, hp, e1, e2⟩ := entS_mem h2 f2
    have : a = p.1 := numV_inj (f3.symm.trans e1)
    rw [this, lookupS_of_mem h3 (List.mem_of_getElem? hp)]
    simp only [numV, this] at hck hf e2
    simp [Instr.lookup, run_underlying Tryd.underlying67, hgo, hck, hf, Result.andThen, e2]
/-- A word more. -/
theorem MapS.put {w : World} {b : Nat} {f : Int → Option Sl} (h : MapS w b f) (a : Int) (x : Sl) :
    ∃ w', (Instr.mapUpdate 67 (.map (some b)) (.int .u64 a) x.v).run Tryd.prog w = .ok () w' ∧ MapS w' b (fun y => if y = a then some x else f y) ∧ Keeps (fun k => k = b) w w' := by
  obtain ⟨es, clock, L, h1, h2, h3, h4⟩ := h.ex
  have hk : MapKept.IsKey (.int .u64) (numV a) := rfl
  have hgo := MapKept.run_getObj_map (P := Tryd.prog) h1
  have hck := fun e => MapKept.run_checkKey (P := Tryd.prog) (w := w) Tryd.underlying35 hk e 9999
  rcases MapKept.findNow_spec hk es.toList 0 (entS_keys h2) with ⟨f1, f2⟩ | ⟨j, e, f1, f2, f3⟩
  · have hf := MapKept.run_findKey (P := Tryd.prog) (w := w) Tryd.underlying35 f1
    have hx : a ∉ L.map (·.1) := fun hm => by
      obtain ⟨p, hp, rfl⟩ := List.mem_map.1 hm
      have : (numV p.1, p.2.v) ∈ es.toList.map (fun x => (x.key, x.val)) := by rw [h2]; exact List.mem_map.2 ⟨p, hp, rfl⟩
      obtain ⟨y, hy, he⟩ := List.mem_map.1 this
      exact f2 y hy (Prod.mk.inj he).1
    have hso := MapKept.run_setObj_map (P := Tryd.prog) (.map (es.push { key := numV a, val := x.v, born := clock }) (clock + 1)) h1
    refine ⟨{ w with heap := w.heap.setIfInBounds b (.map (es.push { key := numV a, val := x.v, born := clock }) (clock + 1)) }, ?_, ⟨_, _, L ++ [(a, x)], (MapKept.heap_set h1).1, ?_, ?_, ?_⟩, ?_⟩
    · simp only [numV] at hck hf hso
      simp [Instr.mapUpdate, run_underlying Tryd.underlying67, hgo, hck, hf, hso, Result.andThen, numV]
    · simp [h2]
    · rw [List.map_append, List.nodup_append]
      refine ⟨h3, by simp, ?_⟩
      intro u hu v hv
      simp only [List.map_cons, List.map_nil, List.mem_singleton] at hv
      subst hv
      rintro rfl
      exact hx hu
    · intro y
      rw [List.lookup_append, h4]
      by_cases hy : y = a
      · subst hy; rw [← h4, lookupS_of_not hx]; simp [List.lookup]
      · have : (y == a) = false := by simp [hy]
        simp [List.lookup, this, hy]
    · refine ⟨rfl, rfl, rfl, by simp, fun k hk hs => ?_⟩
      exact (MapKept.heap_set h1).2 k hs
  · have hf := MapKept.run_findKey (P := Tryd.prog) (w := w) Tryd.underlying35 f1
    obtain ⟨p, hp, e1, e2⟩ := entS_mem h2 f2
    have hap : a = p.1 := numV_inj (f3.symm.trans e1)
    have hso := MapKept.run_setObj_map (P := Tryd.prog) (.map (es.modify j fun e => { e with key := numV a, val := x.v }) clock) h1
    have hej : es[j]? = some e := by simpa using f2
    have hsb : Instr.sameBits 10000 (Value.int .u64 a) (Value.int .u64 a) = true := by rw [show (10000 : Nat) = 9999 + 1 from rfl, Instr.sameBits]; simp
    refine ⟨{ w with heap := w.heap.setIfInBounds b (.map (es.modify j fun e => { e with key := numV a, val := x.v }) clock) }, ?_, ⟨_, _, L.set j (a, x), (MapKept.heap_set h1).1, ?_, ?_, ?_⟩, ?_⟩
    · simp only [numV] at hck hf hso f3
      simp [Instr.mapUpdate, run_underlying Tryd.underlying67, hgo, hck, hf, hso, Result.andThen, hej, f3, Instr.keyThatStays, hsb, numV]
    · apply List.ext_getElem?
      intro i
      have hl := congrArg (fun l : List (Value × Value) => l[i]?) h2
      simp only [List.getElem?_map] at hl ⊢
      rw [List.getElem?_set]
      by_cases hi : j = i
      · subst hi
        have hjl : j < L.length := (List.getElem?_eq_some_iff.1 hp).1
        simp [hej, hjl]
      · simp only [hi, if_false]
        rw [← hl]
        simp [hi]
    · have : (L.set j (a, x)).map (·.1) = L.map (·.1) := by
        apply List.ext_getElem?
        intro i
        simp only [List.getElem?_map, List.getElem?_set]
        by_cases hi : j = i
        · subst hi
          have hjl : j < L.length := (List.getElem?_eq_some_iff.1 hp).1
          simp only [if_true, hjl, Option.map_some]
          rw [hp, hap]; rfl
        · simp [hi]
      rw [this]; exact h3
    · intro y
      rw [lookupS_set L j a x p.2 h3 (by rw [hp, hap]) y, h4]
    · refine ⟨rfl, rfl, rfl, by simp, fun k hk hs => ?_⟩
      exact (MapKept.heap_set h1).2 k hs
end Go.Proofs.YtjmmjkoloioddaaDoor
