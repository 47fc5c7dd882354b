/-
  No statement of the seat is proved here. (Several texts in one: AwG, AwF, AwJ, AwK.)
-/
import Derived.Test.YtppejcfghlpbjaaGreatDoorM10AwD
import Derived.Test.YtppejcfghlpbjaaGreatDoorM07AsN
import Derived.Deep.MidRow

/- The document's number up to the greatest word. No statement of the seat is proved here. -/
namespace Go.Proofs.YtppejcfghlpbjaaGreatDoor
open Go.RowKit Go.Shelf

/-- What number answers, up to the greatest word. -/
def MaxPost (l : List UInt8) (e : Ending) : Prop := match decL l with
  | some n => e = .returned (.tuple #[.int .u64 (n : Int), .bool true])
  | none => e = .returned (.tuple #[.int .u64 0, .bool false])
theorem rnumber_max (l : List UInt8) (hl : l.length ≤ 140737488355328) (w : World) : Calls Tryz.prog 49 #[.string ⟨l.toArray⟩, .int .u64 18446744073709551615] w fun e w' => MaxPost l e ∧ w' = w := by
  have h := rnumber_any 18446744073709551615 (by decide) (by decide) l hl w
  have e : ((18446744073709551615 : Nat) : Int) = 18446744073709551615 := by decide
  rw [e] at h
  refine h.mono fun e w' ⟨h1, h2⟩ => ⟨?_, h2⟩
  unfold NumPost at h1
  rw [numM_full] at h1
  exact h1
end Go.Proofs.YtppejcfghlpbjaaGreatDoor


/- Walk of the document's instr (package parleyref09). No statement of the seat is proved here. -/
namespace Go.Proofs.YtppejcfghlpbjaaGreatDoor
open Go.RowKit Go.Shelf

theorem results_cell_tmp2 {fn : Func} {p u v : Tmp} {ty : TypeId} (h : fn.results = #[.cell p ty, .tmp u, .tmp v]) (tmps : Array Value) (P : Program) (w : World) :
    (results fn tmps).run P w = ((asAddr (tmps.getD p undef)).run P w).andThen fun a w₁ => ((loadVar ty a).run P w₁).andThen fun x w₂ => .ok (.tuple #[x, tmps.getD u undef, tmps.getD v undef]) w₂ := by
  simp only [results, h]
  simp [Sem.run_bind, Result.andThen]
theorem ins_ret3 {fn : Func} {p u v : Tmp} (h : fn.results = #[.cell p 45, .tmp u, .tmp v]) (tmps : Array Value) (w : World) (b : Nat) (old cs : Array Value) (hb : w.heap[b]? = some (.cells old 45 (0, 0))) (hs : cs.size = 5)
    (hp : tmps.getD p undef = .pointer (some ⟨b, 0, none⟩)) : (results fn tmps).run Tryz.prog (w.setRow b cs) = .ok (.tuple #[.agg cs, tmps.getD u undef, tmps.getD v undef]) (w.setRow b cs) := by
  rw [results_cell_tmp2 h, hp]
  simp [asAddr, run_loadVar_row (w.setRow b cs) b 45 45 cs (0, 0) _ (setRow_heap w b old cs _ _ hb) Tryz.underlying45 rfl (by rw [size_ins, hs]), Result.andThen]

theorem wrap_small {n : Nat} (h : (n : Int) ≤ 4) : wrap64 (n : Int) = n := by unfold wrap64; omega
theorem len4 {n m : Nat} (h : n = m + 1) (h3 : m ≤ 3) : (n : Int) ≤ 4 := by omega
theorem len_less {N n m : Nat} (h : N = m + 1 + 1) (h1 : n = m + 1) : (N : Int) - 1 = n := by omega
theorem len_lt {N n m : Nat} (h : N = m + 1 + 1) (h1 : n = m + 1) : (n : Int) < N := by omega
theorem len_cap {N n c : Nat} (h : (n : Int) < N) (h1 : N ≤ c) : (n : Int) < c := by omega
/-- What instr answers. -/
def IPost (l : List (List UInt8)) (e : Ending) : Prop := match parseW (zeroed l) with
  | some i => e = .returned (.tuple #[.agg i.cells, .string ⟨(if usesB l then lastW l else []).toArray⟩, .bool true])
  | none => ∃ i : I5, ∃ s : List UInt8, e = .returned (.tuple #[.agg i.cells, .string ⟨s.toArray⟩, .bool false])
/-- The registers so far. -/
def regB (ws : List (List UInt8)) (j : Nat) : Array Value := #[.int .i64 (rgn ws j 0 : Nat), .int .i64 (rgn ws j 1 : Nat), .int .i64 (rgn ws j 2 : Nat)]
theorem regB_set (ws : List (List UInt8)) (j : Nat) (hj : j < 3) : (regB ws j).setIfInBounds j (.int .i64 (((rgv ws j).getD 0 : Nat) : Int)) = regB ws (j + 1) := by
  have : j = 0 ∨ j = 1 ∨ j = 2 := by omega
  rcases this with rfl | rfl | rfl <;> simp [regB, rgn]
def zI : Array Value := #[.int .i64 0, .int .i64 0, .int .i64 0, .int .i64 0, .int .u64 0]

set_option maxRecDepth 100000 in
set_option maxHeartbeats 20000000 in
theorem rinstr_any (h : List UInt8) (ws : List (List UInt8)) (hw : ∀ x ∈ ws, x.length ≤ 1048576) (base : Nat) (v : Value) (w : World) (hS : Strs w base v (h :: ws)) : Calls Tryz.prog 51 #[v] w fun e w' => IPost (h :: ws) e ∧ Keeps (fun _ => False) w w' := by
  have hmx : Tryz.prog.follows .mixedOrders = true := by kernel_rfl
  have HBAD : Hid (parseW (zeroed (h :: ws)) = none → ∀ (i : I5) (s : List UInt8), IPost (h :: ws) (.returned (.tuple #[.agg i.cells, .string ⟨s.toArray⟩, .bool false]))) := fun q i s => by unfold IPost; rw [q]; exact ⟨i, s, rfl⟩
  have HOK : Hid (∀ i, parseW (zeroed (h :: ws)) = some i → ∀ s, (if usesB (h :: ws) then lastW (h :: ws) else []) = s → IPost (h :: ws) (.returned (.tuple #[.agg i.cells, .string ⟨s.toArray⟩, .bool true]))) := fun i q s hs => by unfold IPost; rw [q, hs]
  obtain ⟨g, cap, rfl, hcap, hg1, hg2, hc⟩ := hS.form (by simp)
  have HC : Hid (∀ X, Keeps (fun _ => False) w X → ∀ k (hk : k < (h :: ws).length), X.cell? ⟨g, k, none⟩ = some (.string ⟨((h :: ws)[k]).toArray⟩)) := fun X kX k hk => by
    rw [← hc k hk]
    simp only [World.cell?, kX.block g hg1 (fun f => f)]
  have kA := (Keeps.refl (fun _ => False) w).alloc (.cells #[.int .i64 0, .int .i64 0, .int .i64 0, .int .i64 0, .int .u64 0] 45)
  have hbA := alloc_block w (.cells #[.int .i64 0, .int .i64 0, .int .i64 0, .int .i64 0, .int .u64 0] 45)
  obtain ⟨N, hN⟩ : ∃ N, N = (h :: ws).length := ⟨_, rfl⟩
  have hN1 : N = ws.length + 1 := by rw [hN]; simp
  have hcN : N ≤ cap := by omega
  have c0 := HC.out _ kA 0 (by simp)
  simp only [List.getElem_cons_zero] at c0
  have HLW : Hid (lastW (h :: ws) = (h :: ws)[ws.length]'(by simp)) := by
    unfold Hid lastW
    rw [List.getLast?_eq_getElem?]
    simp
  have OP := ropof_any h
  have hNp : (0 : Int) < N := by omega
  have HLA : Hid (∀ X, Keeps (fun _ => False) w X → X.cell? ⟨g, ws.length, none⟩ = some (.string ⟨(lastW (h :: ws)).toArray⟩)) := fun X kX => by
    rw [HC.out X kX ws.length (by simp), HLW.out]
  have hLl : (lastW (h :: ws)).length ≤ 140737488355328 ∨ ws = [] := by
    by_cases hws : ws = []
    · exact .inr hws
    · left
      rw [HLW.out]
      have hp := List.length_pos_iff.2 hws
      obtain ⟨q, hq⟩ : ∃ q, ws.length = q + 1 := ⟨ws.length - 1, by omega⟩
      have : (h :: ws)[ws.length]'(by simp) = ws[q]'(by omega) := by
        simp [hq]
      rw [this]
      have := hw (ws[q]'(by omega)) (List.getElem_mem _)
      omega
  rw [← hN]
  clear hS hc
  go_enter Tryz.func51, Tryz.ntmps51
  go_wp2_with fail
  refine (OP _).mono ?_
  rintro e w1 ⟨rfl, k1⟩
  have b0 : w1.heap[w.heap.size]? = some (.cells zI 45 (0, 0)) := (k1.block _ (lt_of_block hbA) (fun f => f)).trans hbA
  have kk1 := kA.trans k1
  clear OP hbA kA c0 k1
  cases hn : namedN h with
  | none =>
    have FM := rform_any 0 w1
    have hR := HBAD.out (ins_noname hn) ⟨0, 0, 0, 0, 0⟩ []
    have kz := kk1.row (Nat.le_refl w.heap.size) #[.int .i64 0, .int .i64 0, .int .i64 0, .int .i64 0, .int .u64 0]
    have e1 : regsN 0 = 0 := by decide
    have e2 : numB 0 = false := by decide
    have e3 : tgtB 0 = false := by decide
    rw [e1, e2, e3] at FM
    simp only [Option.getD_none]
    clear HBAD HOK HC HLA HLW hn
    go_wp2_with fail
    refine FM.mono ?_
    rintro e w2 ⟨rfl, hw2⟩
    replace hw2 := hw2.symm
    subst hw2
    clear FM
    go_wp2_with (refine wpList_store_row' rfl 45 _ _ rfl w.heap.size _ rfl rfl 45 _ b0 size_ins rfl (by simp [Value.oneCell']) ?_)
    refine bodyPost_ret (ins_ret3 rfl _ _ w.heap.size _ _ b0 rfl rfl) rfl ?_
    exact ⟨hR, kz⟩
  | some k =>
    obtain ⟨hk0, hk1, _⟩ := namedN_forth hn
    have FM := rform_any (k : Int) w1
    have hm3 : regsN (k : Int) ≤ 3 := regsN_le3 _
    have hk00 : ((k : Int) == 0) = false := by simp; omega
    have hsp : Hid (partsN (k : Int) = regsN (k : Int) + (if numB (k : Int) then 1 else 0)) := by
      unfold Hid partsN
      rcases shapes5 hk0 hk1 with ⟨a, b, _⟩ | ⟨a, b⟩ | ⟨a, b⟩ | ⟨a, b, _⟩ | ⟨a, b, _⟩ <;> simp [a, b]
    have HNL : Hid (ws.length ≠ partsN (k : Int) → parseW (zeroed (h :: ws)) = none) := fun q => ins_nolen hn q
    have HID : Hid (ws.length = partsN (k : Int) → InsDoc (h :: ws) k ws) := fun q => ins_doc hn q
    simp only [Option.getD_some]
    obtain ⟨m, hm⟩ : ∃ m, m = regsN (k : Int) := ⟨_, rfl⟩
    rw [← hm] at FM hm3
    have HM : Hid (m = regsN (k : Int)) := hm
    obtain ⟨nb, hnb⟩ : ∃ nb, nb = numB (k : Int) := ⟨_, rfl⟩
    rw [← hnb] at FM
    have HNB : Hid (nb = numB (k : Int)) := hnb
    obtain ⟨tb, htb⟩ : ∃ tb, tb = tgtB (k : Int) := ⟨_, rfl⟩
    rw [← htb] at FM
    have HTB : Hid (tb = tgtB (k : Int)) := htb
    have HPN : Hid (partsN (k : Int) = m + (if nb then 1 else 0)) := by unfold Hid; rw [hsp.out, HM.out, HNB.out]
    clear hm hnb htb hn hsp
    go_wp2_with fail
    refine FM.mono ?_
    rintro e w2 ⟨rfl, hw2⟩
    replace hw2 := hw2.symm
    subst hw2
    clear FM
    cases nb
    · by_cases hlen : ws.length = m
      · have ID := HID.out (by rw [HPN.out]; simpa using hlen)
        have HNE : Hid (N = m + 1) := by unfold Hid; omega
        have HLEN : Hid (ws.length = m) := hlen
        have g1 : ((N : Int) != 1 + (m : Int)) = false := by simp; omega
        have g2 : ((N : Int) == 1 + (m : Int)) = true := by simp; omega
        clear hlen hN hN1
        have HIDD : Hid (InsDoc (h :: ws) k ws) := ID
        have kI := kk1.alloc (.cells #[.int .i64 (k : Int), .int .i64 0, .int .i64 0, .int .i64 0, .int .u64 0] 45)
        have b1 := alloc_block w1 (.cells #[.int .i64 (k : Int), .int .i64 0, .int .i64 0, .int .i64 0, .int .u64 0] 45)
        have b01 := ((MapKept.heap_alloc w1 (.cells #[.int .i64 (k : Int), .int .i64 0, .int .i64 0, .int .i64 0, .int .u64 0] 45)).2 _ (lt_of_block b0)).trans b0
        have kJ := kI.alloc (.cells #[.int .i64 0, .int .i64 0, .int .i64 0] 124)
        have b2 := heap_two w1 (.cells #[.int .i64 (k : Int), .int .i64 0, .int .i64 0, .int .i64 0, .int .u64 0] 45) (.cells #[.int .i64 0, .int .i64 0, .int .i64 0] 124)
        have b12 := ((MapKept.heap_alloc (w1.alloc (.cells #[.int .i64 (k : Int), .int .i64 0, .int .i64 0, .int .i64 0, .int .u64 0] 45)) (.cells #[.int .i64 0, .int .i64 0, .int .i64 0] 124)).2 _ (lt_of_block b1)).trans b1
        have b02 := ((MapKept.heap_alloc (w1.alloc (.cells #[.int .i64 (k : Int), .int .i64 0, .int .i64 0, .int .i64 0, .int .u64 0] 45)) (.cells #[.int .i64 0, .int .i64 0, .int .i64 0] 124)).2 _ (lt_of_block b01)).trans b01
        have HS : Hid (w.heap.size < w1.heap.size) := lt_of_block b0
        have S0 : Hid (_ ∧ _ ∧ _ ∧ _) := ⟨b02, b12, b2, kJ⟩
        clear ID kI b1 b01 kJ b2 b12 b02 b0 kk1 HID HNL HPN
        have hmi : (m : Int) ≤ 3 := by omega
        go_wp2_with fail
        go_loopw [12] (fun u wr => ∃ j : Nat, u = .int .i64 j ∧ j ≤ m ∧ Hid (wr.heap[w.heap.size]? = some (.cells zI 45 (0, 0)) ∧ wr.heap[w1.heap.size]? = some (.cells #[.int .i64 (k : Int), .int .i64 0, .int .i64 0, .int .i64 0, .int .u64 0] 45 (0, 0)) ∧ wr.heap[w1.heap.size + 1]? = some (.cells (regB ws j) 124 (0, 0)) ∧ Keeps (fun _ => False) w wr ∧ (∀ i, i < j → (rgv ws i).isSome = true))) (fun u _ => m - (intOf u).toNat)
        case atStart => exact ⟨0, rfl, Nat.zero_le _, ⟨S0.out.1, S0.out.2.1, by simpa [regB, rgn] using S0.out.2.2.1, S0.out.2.2.2, fun i hi => by omega⟩⟩
        case round =>
          obtain ⟨j, rfl, hjm, hh⟩ := hrel
          clear S0
          by_cases hjl : j < m
          · obtain ⟨p0, p1, p2, p3, p4⟩ := hh.out
            have hji : (j : Int) < m := by omega
            have hj3 : (j : Int) < 3 := by omega
            have hjw : j < ws.length := by have := HLEN.out; omega
            have cj := HC.out wr p3 (1 + j) (by simp; omega)
            have hget : (h :: ws)[1 + j]'(by simp; omega) = ws[j]'hjw := by simp [Nat.add_comm 1 j]
            rw [hget] at cj
            have NU := rnumber_any 7 (by omega) (by omega) (ws[j]) (by have := hw _ (List.getElem_mem hjw); omega) wr
            have HRG : Hid (rgv ws j = numM 7 (ws[j])) := by unfold Hid rgv; rw [List.getElem?_eq_getElem hjw]; rfl
            unfold NumPost at NU
            have hi1 : 1 + (j : Int) < (N : Int) := by have := HNE.out; omega
            have hi2 : 1 + (j : Int) < (cap : Int) := by have := HNE.out; omega
            generalize (ws[j]'hjw) = x at *
            cases hnu : numM 7 x with
            | none =>
              rw [hnu] at NU HRG
              dsimp only at NU
              have hR := HBAD.out (HIDD.out.bad j (by rw [← HM.out]; exact hjl) HRG.out) ⟨0, 0, 0, 0, 0⟩ []
              have kz := p3.row (Nat.le_refl w.heap.size) #[.int .i64 0, .int .i64 0, .int .i64 0, .int .i64 0, .int .u64 0]
              have P0 : Hid (_ = _) := p0
              clear HBAD HOK HC HLA HLW hh p0 p1 p2 p3 p4
              go_wp2_with fail
              refine NU.mono ?_
              rintro e w3 ⟨rfl, hw3⟩
              replace hw3 := hw3.symm
              subst hw3
              clear NU
              go_wp2_with (refine wpList_store_row' rfl 45 _ _ rfl w.heap.size _ rfl rfl 45 _ P0.out size_ins rfl (by simp [Value.oneCell']) ?_)
              refine bodyPost_ret (ins_ret3 rfl _ _ w.heap.size _ _ P0.out rfl rfl) rfl ?_
              exact ⟨hR, kz⟩
            | some n =>
              rw [hnu] at NU HRG
              dsimp only at NU
              have hn7 := (numM_seven hnu).2
              have hset := regB_set ws j (by omega)
              rw [HRG.out, Option.getD_some] at hset
              obtain ⟨vq, cq⟩ : ∃ v, wr.cell? ⟨w1.heap.size + 1, j, none⟩ = some v := ⟨_, by rw [cell_of_block p2]; exact Array.getElem?_eq_getElem (by simp [regB]; omega)⟩
              have fq := frozen_of_block p2 j
              have A3 := (Below.heap_setCell wr (⟨w1.heap.size + 1, j, none⟩ : Addr) (.int .i64 n) w.heap.size (by have := HS.out; simp; omega)).trans p0
              have D3 := (Below.heap_setCell wr (⟨w1.heap.size + 1, j, none⟩ : Addr) (.int .i64 n) w1.heap.size (by simp)).trans p1
              have R3 := (block_set p2 j (.int .i64 n)).trans (by rw [hset])
              have K3 := p3.setCell (p := ⟨w1.heap.size + 1, j, none⟩) (.inl (by have := HS.out; show _ ≤ w1.heap.size + 1; omega)) (.int .i64 n)
              have fin : Hid ((wr.setCell ⟨w1.heap.size + 1, j, none⟩ (.int .i64 n)).heap[w.heap.size]? = some (.cells zI 45 (0, 0)) ∧ (wr.setCell ⟨w1.heap.size + 1, j, none⟩ (.int .i64 n)).heap[w1.heap.size]? = some (.cells #[.int .i64 (k : Int), .int .i64 0, .int .i64 0, .int .i64 0, .int .u64 0] 45 (0, 0)) ∧ (wr.setCell ⟨w1.heap.size + 1, j, none⟩ (.int .i64 n)).heap[w1.heap.size + 1]? = some (.cells (regB ws (j + 1)) 124 (0, 0)) ∧ Keeps (fun _ => False) w (wr.setCell ⟨w1.heap.size + 1, j, none⟩ (.int .i64 n)) ∧ (∀ i, i < j + 1 → (rgv ws i).isSome = true)) := ⟨A3, D3, R3, K3, fun i hi => by
                by_cases hij : i = j
                · subst hij; rw [HRG.out]; rfl
                · exact p4 i (by omega)⟩
              clear HBAD HOK HC HLA HLW hh p0 p1 p2 p3 p4 A3 D3 R3 K3 hset
              go_wp2_with fail
              refine NU.mono ?_
              rintro e w3 ⟨rfl, hw3⟩
              replace hw3 := hw3.symm
              subst hw3
              clear NU
              go_wp2_with fail
              go_roundw
              · exact ⟨j + 1, by simp, by omega, fin⟩
              · simp [intOf]; omega
          · have hji : ¬ (j : Int) < m := by omega
            obtain rfl : j = m := by omega
            obtain ⟨p0, p1, p2, p3, p4⟩ := hh.out
            clear hh
            have HAL : Hid (∀ i, i < regsN (k : Int) → (rgv ws i).isSome = true) := by rw [← HM.out]; exact p4
            have hq0 := rgn_le ws j 0
            have hq1 := rgn_le ws j 1
            have hq2 := rgn_le ws j 2
            have HRR : Hid (∀ i, rgn ws (regsN (k : Int)) i = rgn ws j i) := fun i => by rw [← HM.out]
            unfold regB at p2
            generalize hx0 : rgn ws j 0 = x0 at *
            generalize hx1 : rgn ws j 1 = x1 at *
            generalize hx2 : rgn ws j 2 = x2 at *
            have HXX : Hid (_ ∧ _ ∧ _) := ⟨hx0, hx1, hx2⟩
            clear hx0 hx1 hx2
            have z0 := cell_of_block p2 0
            have z1 := cell_of_block p2 1
            have z2 := cell_of_block p2 2
            simp only [List.getElem?_toArray, List.getElem?_cons_zero, List.getElem?_cons_succ] at z0 z1 z2
            have HCL : Hid (∀ X, Keeps (fun _ => False) w X → X.cell? ⟨g, ws.length, none⟩ = some (.string ⟨(lastW (h :: ws)).toArray⟩)) := HLA
            have kD : Keeps (fun _ => False) w wr.drew := p3.drewN 1
            have z0d : wr.drew.cell? ⟨w1.heap.size + 1, 0, none⟩ = some (.int .i64 (x0 : Int)) := z0
            have z1d : wr.drew.cell? ⟨w1.heap.size + 1, 1, none⟩ = some (.int .i64 (x1 : Int)) := z1
            have z2d : wr.drew.cell? ⟨w1.heap.size + 1, 2, none⟩ = some (.int .i64 (x2 : Int)) := z2
            have p0d : wr.drew.heap[w.heap.size]? = some (.cells zI 45 (0, 0)) := p0
            have p1d : wr.drew.heap[w1.heap.size]? = some (.cells #[.int .i64 (k : Int), .int .i64 0, .int .i64 0, .int .i64 0, .int .u64 0] 45 (0, 0)) := p1
            clear z0 z1 z2 p0 p1 p2 p3 p4 HLA HC HLW
            go_wp2_with fail
            refine wp_held_end (S := (fun X : World => X.cell? ⟨w1.heap.size + 1, 0, none⟩ = some (.int .i64 (x0 : Int)) ∧ X.cell? ⟨w1.heap.size + 1, 1, none⟩ = some (.int .i64 (x1 : Int)) ∧ X.cell? ⟨w1.heap.size + 1, 2, none⟩ = some (.int .i64 (x2 : Int)))) 12 rfl hmx ?_
            generalize wr.drew = wd at *
            simp only [Array.replicate_succ, Array.replicate_zero, List.push_toArray, List.nil_append, List.cons_append]
            have hle : w.heap.size ≤ w1.heap.size := by have := HS.out; omega
            have hne : w.heap.size ≠ w1.heap.size := by have := HS.out; omega
            have HHS : Hid (w.heap.size ≤ w1.heap.size ∧ w.heap.size ≠ w1.heap.size) := ⟨hle, hne⟩
            clear hle hne
            obtain ⟨V1, hV1⟩ : ∃ V, V = wd.setCell ⟨w1.heap.size, 1, none⟩ (.int .i64 (x0 : Int)) := ⟨_, rfl⟩
            obtain ⟨V2, hV2⟩ : ∃ V, V = V1.setCell ⟨w1.heap.size, 2, none⟩ (.int .i64 (x1 : Int)) := ⟨_, rfl⟩
            obtain ⟨V3, hV3⟩ : ∃ V, V = V2.setCell ⟨w1.heap.size, 3, none⟩ (.int .i64 (x2 : Int)) := ⟨_, rfl⟩
            have q1 : V1.heap[w1.heap.size]? = some (.cells #[.int .i64 (k : Int), .int .i64 (x0 : Int), .int .i64 0, .int .i64 0, .int .u64 0] 45 (0, 0)) := by rw [hV1]; exact block_set p1d 1 _
            have q2 : V2.heap[w1.heap.size]? = some (.cells #[.int .i64 (k : Int), .int .i64 (x0 : Int), .int .i64 (x1 : Int), .int .i64 0, .int .u64 0] 45 (0, 0)) := by rw [hV2]; exact block_set q1 2 _
            have q3 : V3.heap[w1.heap.size]? = some (.cells #[.int .i64 (k : Int), .int .i64 (x0 : Int), .int .i64 (x1 : Int), .int .i64 (x2 : Int), .int .u64 0] 45 (0, 0)) := by rw [hV3]; exact block_set q2 3 _
            have kV : Keeps (fun _ => False) w V3 := by
              rw [hV3, hV2, hV1]
              exact ((kD.setCell (p := ⟨w1.heap.size, 1, none⟩) (.inl HHS.out.1) _).setCell (p := ⟨w1.heap.size, 2, none⟩) (.inl HHS.out.1) _).setCell (p := ⟨w1.heap.size, 3, none⟩) (.inl HHS.out.1) _
            have p0V : V3.heap[w.heap.size]? = some (.cells zI 45 (0, 0)) := by
              rw [hV3, hV2, hV1]
              exact (((Below.heap_setCell _ _ _ _ (by simpa using HHS.out.2)).trans (Below.heap_setCell _ _ _ _ (by simpa using HHS.out.2))).trans (Below.heap_setCell _ _ _ _ (by simpa using HHS.out.2))).trans p0d
            have S0 : (fun X : World => X.cell? ⟨w1.heap.size + 1, 0, none⟩ = some (.int .i64 (x0 : Int)) ∧ X.cell? ⟨w1.heap.size + 1, 1, none⟩ = some (.int .i64 (x1 : Int)) ∧ X.cell? ⟨w1.heap.size + 1, 2, none⟩ = some (.int .i64 (x2 : Int))) wd := ⟨z0d, z1d, z2d⟩
            have S1 : (fun X : World => X.cell? ⟨w1.heap.size + 1, 0, none⟩ = some (.int .i64 (x0 : Int)) ∧ X.cell? ⟨w1.heap.size + 1, 1, none⟩ = some (.int .i64 (x1 : Int)) ∧ X.cell? ⟨w1.heap.size + 1, 2, none⟩ = some (.int .i64 (x2 : Int))) V1 := by
              rw [hV1]
              exact ⟨by rw [World.cell?_setCell_other _ _ _ _ (by simp)]; exact z0d, by rw [World.cell?_setCell_other _ _ _ _ (by simp)]; exact z1d, by rw [World.cell?_setCell_other _ _ _ _ (by simp)]; exact z2d⟩
            have S2 : (fun X : World => X.cell? ⟨w1.heap.size + 1, 0, none⟩ = some (.int .i64 (x0 : Int)) ∧ X.cell? ⟨w1.heap.size + 1, 1, none⟩ = some (.int .i64 (x1 : Int)) ∧ X.cell? ⟨w1.heap.size + 1, 2, none⟩ = some (.int .i64 (x2 : Int))) V2 := by
              rw [hV2]
              exact ⟨by rw [World.cell?_setCell_other _ _ _ _ (by simp)]; exact S1.1, by rw [World.cell?_setCell_other _ _ _ _ (by simp)]; exact S1.2.1, by rw [World.cell?_setCell_other _ _ _ _ (by simp)]; exact S1.2.2⟩
            have S3 : (fun X : World => X.cell? ⟨w1.heap.size + 1, 0, none⟩ = some (.int .i64 (x0 : Int)) ∧ X.cell? ⟨w1.heap.size + 1, 1, none⟩ = some (.int .i64 (x1 : Int)) ∧ X.cell? ⟨w1.heap.size + 1, 2, none⟩ = some (.int .i64 (x2 : Int))) V3 := by
              rw [hV3]
              exact ⟨by rw [World.cell?_setCell_other _ _ _ _ (by simp)]; exact S2.1, by rw [World.cell?_setCell_other _ _ _ _ (by simp)]; exact S2.2.1, by rw [World.cell?_setCell_other _ _ _ _ (by simp)]; exact S2.2.2⟩
            have c1 := cell_of_block p1d 1
            have f1 := frozen_of_block p1d 1
            have c2 := cell_of_block q1 2
            have f2 := frozen_of_block q1 2
            have c3 := cell_of_block q2 3
            have f3 := frozen_of_block q2 3
            simp only [List.getElem?_toArray, List.getElem?_cons_zero, List.getElem?_cons_succ] at c1 c2 c3
            have HV1 : Hid (V1 = wd.setCell ⟨w1.heap.size, 1, none⟩ (.int .i64 (x0 : Int))) := hV1
            have HV2 : Hid (V2 = V1.setCell ⟨w1.heap.size, 2, none⟩ (.int .i64 (x1 : Int))) := hV2
            have HV3 : Hid (V3 = V2.setCell ⟨w1.heap.size, 3, none⟩ (.int .i64 (x2 : Int))) := hV3
            clear hV1 hV2 hV3 p0d p1d q1 q2 kD
            refine held_take (i := 0) (v := .pointer (some ⟨w1.heap.size + 1, 0, none⟩)) 65 rfl rfl (by kernel_rfl) (by kernel_rfl) (by kernel_rfl) rfl (fun w' hw' => by obtain ⟨r0, r1, r2⟩ := hw'; go_simp) S0 ?_
            simp only [Act.put, List.setIfInBounds_toArray, List.set_cons_zero, List.set_cons_succ]
            refine held_take (i := 1) (v := .int .i64 (x0 : Int)) 66 rfl rfl (by kernel_rfl) (by kernel_rfl) (by kernel_rfl) rfl (fun w' hw' => by obtain ⟨r0, r1, r2⟩ := hw'; go_simp) S0 ?_
            simp only [Act.put, List.setIfInBounds_toArray, List.set_cons_zero, List.set_cons_succ]
            refine held_take (i := 2) (v := .pointer (some ⟨w1.heap.size + 1, 1, none⟩)) 67 rfl rfl (by kernel_rfl) (by kernel_rfl) (by kernel_rfl) rfl (fun w' hw' => by obtain ⟨r0, r1, r2⟩ := hw'; go_simp) S0 ?_
            simp only [Act.put, List.setIfInBounds_toArray, List.set_cons_zero, List.set_cons_succ]
            refine held_take (i := 3) (v := .int .i64 (x1 : Int)) 68 rfl rfl (by kernel_rfl) (by kernel_rfl) (by kernel_rfl) rfl (fun w' hw' => by obtain ⟨r0, r1, r2⟩ := hw'; go_simp) S0 ?_
            simp only [Act.put, List.setIfInBounds_toArray, List.set_cons_zero, List.set_cons_succ]
            refine held_take (i := 4) (v := .pointer (some ⟨w1.heap.size + 1, 2, none⟩)) 69 rfl rfl (by kernel_rfl) (by kernel_rfl) (by kernel_rfl) rfl (fun w' hw' => by obtain ⟨r0, r1, r2⟩ := hw'; go_simp) S0 ?_
            simp only [Act.put, List.setIfInBounds_toArray, List.set_cons_zero, List.set_cons_succ]
            refine held_take (i := 5) (v := .int .i64 (x2 : Int)) 70 rfl rfl (by kernel_rfl) (by kernel_rfl) (by kernel_rfl) rfl (fun w' hw' => by obtain ⟨r0, r1, r2⟩ := hw'; go_simp) S0 ?_
            simp only [Act.put, List.setIfInBounds_toArray, List.set_cons_zero, List.set_cons_succ]
            refine held_take (i := 6) (v := .pointer (some ⟨w1.heap.size, 1, none⟩)) 71 rfl rfl (by kernel_rfl) (by kernel_rfl) (by kernel_rfl) rfl (fun w' hw' => by obtain ⟨r0, r1, r2⟩ := hw'; go_simp) S0 ?_
            simp only [Act.put, List.setIfInBounds_toArray, List.set_cons_zero, List.set_cons_succ]
            refine held_none (i := 7) (w' := V1) (by kernel_rfl) rfl rfl rfl (by rw [HV1.out]; go_simp) S1 ?_
            refine held_take (i := 8) (v := .pointer (some ⟨w1.heap.size, 2, none⟩)) 72 rfl rfl (by kernel_rfl) (by kernel_rfl) (by kernel_rfl) rfl (fun w' hw' => by obtain ⟨r0, r1, r2⟩ := hw'; go_simp) S1 ?_
            simp only [Act.put, List.setIfInBounds_toArray, List.set_cons_zero, List.set_cons_succ]
            refine held_none (i := 9) (w' := V2) (by kernel_rfl) rfl rfl rfl (by rw [HV2.out]; go_simp) S2 ?_
            refine held_take (i := 10) (v := .pointer (some ⟨w1.heap.size, 3, none⟩)) 73 rfl rfl (by kernel_rfl) (by kernel_rfl) (by kernel_rfl) rfl (fun w' hw' => by obtain ⟨r0, r1, r2⟩ := hw'; go_simp) S2 ?_
            simp only [Act.put, List.setIfInBounds_toArray, List.set_cons_zero, List.set_cons_succ]
            refine held_none (i := 11) (w' := V3) (by kernel_rfl) rfl rfl rfl (by rw [HV3.out]; go_simp) S3 ?_
            refine held_end (by kernel_rfl) ?_ _
            clear S0 S1 S2 S3 c1 c2 c3 f1 f2 f3 z0d z1d z2d HV1 HV2 HV3
            have hP := HIDD.out.plain HAL.out HNB.out.symm
            rw [HRR.out, HRR.out, HRR.out, HXX.out.1, HXX.out.2.1, HXX.out.2.2] at hP
            have hR := HOK.out _ hP.1 [] (by rw [hP.2]; rfl)
            clear hP
            have kz := kV.row (Nat.le_refl w.heap.size) #[.int .i64 (k : Int), .int .i64 (x0 : Int), .int .i64 (x1 : Int), .int .i64 (x2 : Int), .int .u64 0]
            have B1H : Hid (_ = _) := q3
            have B0H : Hid (_ = _) := p0V
            clear HBAD HOK HIDD
            go_wp2_with (first
              | (refine wpList_load_row rfl 45 _ rfl w1.heap.size rfl 45 _ (0, 0) _ B1H.out Tryz.underlying45 rfl (by rw [size_ins]; rfl) ?_)
              | (refine wpList_store_row' rfl 45 _ _ rfl w.heap.size _ rfl rfl 45 _ B0H.out size_ins rfl (by simp [Value.oneCell']) ?_))
            refine bodyPost_ret (ins_ret3 rfl _ _ w.heap.size _ _ B0H.out rfl rfl) rfl ?_
            exact ⟨hR, kz⟩

      · have hR := HBAD.out (HNL.out (by rw [HPN.out]; simpa using hlen)) ⟨0, 0, 0, 0, 0⟩ []
        have kz := kk1.row (Nat.le_refl w.heap.size) #[.int .i64 0, .int .i64 0, .int .i64 0, .int .i64 0, .int .u64 0]
        have g1 : ((N : Int) != 1 + (m : Int)) = true := by simp; omega
        have g2 : ((N : Int) == 1 + (m : Int)) = false := by simp; omega
        clear HBAD HOK HC HLA HLW HNL HID HPN
        go_wp2_with (refine wpList_store_row' rfl 45 _ _ rfl w.heap.size _ rfl rfl 45 _ b0 size_ins rfl (by simp [Value.oneCell']) ?_)
        refine bodyPost_ret (ins_ret3 rfl _ _ w.heap.size _ _ b0 rfl rfl) rfl ?_
        exact ⟨hR, kz⟩
    · by_cases hlen : ws.length = m + 1
      · have ID := HID.out (by rw [HPN.out]; simpa using hlen)
        have HNE : Hid (N = m + 1 + 1) := by unfold Hid; omega
        have HLEN : Hid (ws.length = m + 1) := hlen
        have g1 : ((N : Int) != 1 + (m : Int) + 1) = false := by simp; omega
        have g2 : ((N : Int) == 1 + (m : Int) + 1) = true := by simp; omega
        clear hlen hN hN1
        have HIDD : Hid (InsDoc (h :: ws) k ws) := ID
        have kI := kk1.alloc (.cells #[.int .i64 (k : Int), .int .i64 0, .int .i64 0, .int .i64 0, .int .u64 0] 45)
        have b1 := alloc_block w1 (.cells #[.int .i64 (k : Int), .int .i64 0, .int .i64 0, .int .i64 0, .int .u64 0] 45)
        have b01 := ((MapKept.heap_alloc w1 (.cells #[.int .i64 (k : Int), .int .i64 0, .int .i64 0, .int .i64 0, .int .u64 0] 45)).2 _ (lt_of_block b0)).trans b0
        have kJ := kI.alloc (.cells #[.int .i64 0, .int .i64 0, .int .i64 0] 124)
        have b2 := heap_two w1 (.cells #[.int .i64 (k : Int), .int .i64 0, .int .i64 0, .int .i64 0, .int .u64 0] 45) (.cells #[.int .i64 0, .int .i64 0, .int .i64 0] 124)
        have b12 := ((MapKept.heap_alloc (w1.alloc (.cells #[.int .i64 (k : Int), .int .i64 0, .int .i64 0, .int .i64 0, .int .u64 0] 45)) (.cells #[.int .i64 0, .int .i64 0, .int .i64 0] 124)).2 _ (lt_of_block b1)).trans b1
        have b02 := ((MapKept.heap_alloc (w1.alloc (.cells #[.int .i64 (k : Int), .int .i64 0, .int .i64 0, .int .i64 0, .int .u64 0] 45)) (.cells #[.int .i64 0, .int .i64 0, .int .i64 0] 124)).2 _ (lt_of_block b01)).trans b01
        have HS : Hid (w.heap.size < w1.heap.size) := lt_of_block b0
        have S0 : Hid (_ ∧ _ ∧ _ ∧ _) := ⟨b02, b12, b2, kJ⟩
        clear ID kI b1 b01 kJ b2 b12 b02 b0 kk1 HID HNL HPN
        have hmi : (m : Int) ≤ 3 := by omega
        go_wp2_with fail
        go_loopw [12] (fun u wr => ∃ j : Nat, u = .int .i64 j ∧ j ≤ m ∧ Hid (wr.heap[w.heap.size]? = some (.cells zI 45 (0, 0)) ∧ wr.heap[w1.heap.size]? = some (.cells #[.int .i64 (k : Int), .int .i64 0, .int .i64 0, .int .i64 0, .int .u64 0] 45 (0, 0)) ∧ wr.heap[w1.heap.size + 1]? = some (.cells (regB ws j) 124 (0, 0)) ∧ Keeps (fun _ => False) w wr ∧ (∀ i, i < j → (rgv ws i).isSome = true))) (fun u _ => m - (intOf u).toNat)
        case atStart => exact ⟨0, rfl, Nat.zero_le _, ⟨S0.out.1, S0.out.2.1, by simpa [regB, rgn] using S0.out.2.2.1, S0.out.2.2.2, fun i hi => by omega⟩⟩
        case round =>
          obtain ⟨j, rfl, hjm, hh⟩ := hrel
          clear S0
          by_cases hjl : j < m
          · obtain ⟨p0, p1, p2, p3, p4⟩ := hh.out
            have hji : (j : Int) < m := by omega
            have hj3 : (j : Int) < 3 := by omega
            have hjw : j < ws.length := by have := HLEN.out; omega
            have cj := HC.out wr p3 (1 + j) (by simp; omega)
            have hget : (h :: ws)[1 + j]'(by simp; omega) = ws[j]'hjw := by simp [Nat.add_comm 1 j]
            rw [hget] at cj
            have NU := rnumber_any 7 (by omega) (by omega) (ws[j]) (by have := hw _ (List.getElem_mem hjw); omega) wr
            have HRG : Hid (rgv ws j = numM 7 (ws[j])) := by unfold Hid rgv; rw [List.getElem?_eq_getElem hjw]; rfl
            unfold NumPost at NU
            have hi1 : 1 + (j : Int) < (N : Int) := by have := HNE.out; omega
            have hi2 : 1 + (j : Int) < (cap : Int) := by have := HNE.out; omega
            generalize (ws[j]'hjw) = x at *
            cases hnu : numM 7 x with
            | none =>
              rw [hnu] at NU HRG
              dsimp only at NU
              have hR := HBAD.out (HIDD.out.bad j (by rw [← HM.out]; exact hjl) HRG.out) ⟨0, 0, 0, 0, 0⟩ []
              have kz := p3.row (Nat.le_refl w.heap.size) #[.int .i64 0, .int .i64 0, .int .i64 0, .int .i64 0, .int .u64 0]
              have P0 : Hid (_ = _) := p0
              clear HBAD HOK HC HLA HLW hh p0 p1 p2 p3 p4
              go_wp2_with fail
              refine NU.mono ?_
              rintro e w3 ⟨rfl, hw3⟩
              replace hw3 := hw3.symm
              subst hw3
              clear NU
              go_wp2_with (refine wpList_store_row' rfl 45 _ _ rfl w.heap.size _ rfl rfl 45 _ P0.out size_ins rfl (by simp [Value.oneCell']) ?_)
              refine bodyPost_ret (ins_ret3 rfl _ _ w.heap.size _ _ P0.out rfl rfl) rfl ?_
              exact ⟨hR, kz⟩
            | some n =>
              rw [hnu] at NU HRG
              dsimp only at NU
              have hn7 := (numM_seven hnu).2
              have hset := regB_set ws j (by omega)
              rw [HRG.out, Option.getD_some] at hset
              obtain ⟨vq, cq⟩ : ∃ v, wr.cell? ⟨w1.heap.size + 1, j, none⟩ = some v := ⟨_, by rw [cell_of_block p2]; exact Array.getElem?_eq_getElem (by simp [regB]; omega)⟩
              have fq := frozen_of_block p2 j
              have A3 := (Below.heap_setCell wr (⟨w1.heap.size + 1, j, none⟩ : Addr) (.int .i64 n) w.heap.size (by have := HS.out; simp; omega)).trans p0
              have D3 := (Below.heap_setCell wr (⟨w1.heap.size + 1, j, none⟩ : Addr) (.int .i64 n) w1.heap.size (by simp)).trans p1
              have R3 := (block_set p2 j (.int .i64 n)).trans (by rw [hset])
              have K3 := p3.setCell (p := ⟨w1.heap.size + 1, j, none⟩) (.inl (by have := HS.out; show _ ≤ w1.heap.size + 1; omega)) (.int .i64 n)
              have fin : Hid ((wr.setCell ⟨w1.heap.size + 1, j, none⟩ (.int .i64 n)).heap[w.heap.size]? = some (.cells zI 45 (0, 0)) ∧ (wr.setCell ⟨w1.heap.size + 1, j, none⟩ (.int .i64 n)).heap[w1.heap.size]? = some (.cells #[.int .i64 (k : Int), .int .i64 0, .int .i64 0, .int .i64 0, .int .u64 0] 45 (0, 0)) ∧ (wr.setCell ⟨w1.heap.size + 1, j, none⟩ (.int .i64 n)).heap[w1.heap.size + 1]? = some (.cells (regB ws (j + 1)) 124 (0, 0)) ∧ Keeps (fun _ => False) w (wr.setCell ⟨w1.heap.size + 1, j, none⟩ (.int .i64 n)) ∧ (∀ i, i < j + 1 → (rgv ws i).isSome = true)) := ⟨A3, D3, R3, K3, fun i hi => by
                by_cases hij : i = j
                · subst hij; rw [HRG.out]; rfl
                · exact p4 i (by omega)⟩
              clear HBAD HOK HC HLA HLW hh p0 p1 p2 p3 p4 A3 D3 R3 K3 hset
              go_wp2_with fail
              refine NU.mono ?_
              rintro e w3 ⟨rfl, hw3⟩
              replace hw3 := hw3.symm
              subst hw3
              clear NU
              go_wp2_with fail
              go_roundw
              · exact ⟨j + 1, by simp, by omega, fin⟩
              · simp [intOf]; omega
          · have hji : ¬ (j : Int) < m := by omega
            obtain rfl : j = m := by omega
            obtain ⟨p0, p1, p2, p3, p4⟩ := hh.out
            clear hh
            have HAL : Hid (∀ i, i < regsN (k : Int) → (rgv ws i).isSome = true) := by rw [← HM.out]; exact p4
            have hq0 := rgn_le ws j 0
            have hq1 := rgn_le ws j 1
            have hq2 := rgn_le ws j 2
            have HRR : Hid (∀ i, rgn ws (regsN (k : Int)) i = rgn ws j i) := fun i => by rw [← HM.out]
            unfold regB at p2
            generalize hx0 : rgn ws j 0 = x0 at *
            generalize hx1 : rgn ws j 1 = x1 at *
            generalize hx2 : rgn ws j 2 = x2 at *
            have HXX : Hid (_ ∧ _ ∧ _) := ⟨hx0, hx1, hx2⟩
            clear hx0 hx1 hx2
            have z0 := cell_of_block p2 0
            have z1 := cell_of_block p2 1
            have z2 := cell_of_block p2 2
            simp only [List.getElem?_toArray, List.getElem?_cons_zero, List.getElem?_cons_succ] at z0 z1 z2
            have HCL : Hid (∀ X, Keeps (fun _ => False) w X → X.cell? ⟨g, ws.length, none⟩ = some (.string ⟨(lastW (h :: ws)).toArray⟩)) := HLA
            have kD : Keeps (fun _ => False) w wr.drew := p3.drewN 1
            have z0d : wr.drew.cell? ⟨w1.heap.size + 1, 0, none⟩ = some (.int .i64 (x0 : Int)) := z0
            have z1d : wr.drew.cell? ⟨w1.heap.size + 1, 1, none⟩ = some (.int .i64 (x1 : Int)) := z1
            have z2d : wr.drew.cell? ⟨w1.heap.size + 1, 2, none⟩ = some (.int .i64 (x2 : Int)) := z2
            have p0d : wr.drew.heap[w.heap.size]? = some (.cells zI 45 (0, 0)) := p0
            have p1d : wr.drew.heap[w1.heap.size]? = some (.cells #[.int .i64 (k : Int), .int .i64 0, .int .i64 0, .int .i64 0, .int .u64 0] 45 (0, 0)) := p1
            clear z0 z1 z2 p0 p1 p2 p3 p4 HLA HC HLW
            go_wp2_with fail
            refine wp_held_end (S := (fun X : World => X.cell? ⟨w1.heap.size + 1, 0, none⟩ = some (.int .i64 (x0 : Int)) ∧ X.cell? ⟨w1.heap.size + 1, 1, none⟩ = some (.int .i64 (x1 : Int)) ∧ X.cell? ⟨w1.heap.size + 1, 2, none⟩ = some (.int .i64 (x2 : Int)))) 12 rfl hmx ?_
            generalize wr.drew = wd at *
            simp only [Array.replicate_succ, Array.replicate_zero, List.push_toArray, List.nil_append, List.cons_append]
            have hle : w.heap.size ≤ w1.heap.size := by have := HS.out; omega
            have hne : w.heap.size ≠ w1.heap.size := by have := HS.out; omega
            have HHS : Hid (w.heap.size ≤ w1.heap.size ∧ w.heap.size ≠ w1.heap.size) := ⟨hle, hne⟩
            clear hle hne
            obtain ⟨V1, hV1⟩ : ∃ V, V = wd.setCell ⟨w1.heap.size, 1, none⟩ (.int .i64 (x0 : Int)) := ⟨_, rfl⟩
            obtain ⟨V2, hV2⟩ : ∃ V, V = V1.setCell ⟨w1.heap.size, 2, none⟩ (.int .i64 (x1 : Int)) := ⟨_, rfl⟩
            obtain ⟨V3, hV3⟩ : ∃ V, V = V2.setCell ⟨w1.heap.size, 3, none⟩ (.int .i64 (x2 : Int)) := ⟨_, rfl⟩
            have q1 : V1.heap[w1.heap.size]? = some (.cells #[.int .i64 (k : Int), .int .i64 (x0 : Int), .int .i64 0, .int .i64 0, .int .u64 0] 45 (0, 0)) := by rw [hV1]; exact block_set p1d 1 _
            have q2 : V2.heap[w1.heap.size]? = some (.cells #[.int .i64 (k : Int), .int .i64 (x0 : Int), .int .i64 (x1 : Int), .int .i64 0, .int .u64 0] 45 (0, 0)) := by rw [hV2]; exact block_set q1 2 _
            have q3 : V3.heap[w1.heap.size]? = some (.cells #[.int .i64 (k : Int), .int .i64 (x0 : Int), .int .i64 (x1 : Int), .int .i64 (x2 : Int), .int .u64 0] 45 (0, 0)) := by rw [hV3]; exact block_set q2 3 _
            have kV : Keeps (fun _ => False) w V3 := by
              rw [hV3, hV2, hV1]
              exact ((kD.setCell (p := ⟨w1.heap.size, 1, none⟩) (.inl HHS.out.1) _).setCell (p := ⟨w1.heap.size, 2, none⟩) (.inl HHS.out.1) _).setCell (p := ⟨w1.heap.size, 3, none⟩) (.inl HHS.out.1) _
            have p0V : V3.heap[w.heap.size]? = some (.cells zI 45 (0, 0)) := by
              rw [hV3, hV2, hV1]
              exact (((Below.heap_setCell _ _ _ _ (by simpa using HHS.out.2)).trans (Below.heap_setCell _ _ _ _ (by simpa using HHS.out.2))).trans (Below.heap_setCell _ _ _ _ (by simpa using HHS.out.2))).trans p0d
            have S0 : (fun X : World => X.cell? ⟨w1.heap.size + 1, 0, none⟩ = some (.int .i64 (x0 : Int)) ∧ X.cell? ⟨w1.heap.size + 1, 1, none⟩ = some (.int .i64 (x1 : Int)) ∧ X.cell? ⟨w1.heap.size + 1, 2, none⟩ = some (.int .i64 (x2 : Int))) wd := ⟨z0d, z1d, z2d⟩
            have S1 : (fun X : World => X.cell? ⟨w1.heap.size + 1, 0, none⟩ = some (.int .i64 (x0 : Int)) ∧ X.cell? ⟨w1.heap.size + 1, 1, none⟩ = some (.int .i64 (x1 : Int)) ∧ X.cell? ⟨w1.heap.size + 1, 2, none⟩ = some (.int .i64 (x2 : Int))) V1 := by
              rw [hV1]
              exact ⟨by rw [World.cell?_setCell_other _ _ _ _ (by simp)]; exact z0d, by rw [World.cell?_setCell_other _ _ _ _ (by simp)]; exact z1d, by rw [World.cell?_setCell_other _ _ _ _ (by simp)]; exact z2d⟩
            have S2 : (fun X : World => X.cell? ⟨w1.heap.size + 1, 0, none⟩ = some (.int .i64 (x0 : Int)) ∧ X.cell? ⟨w1.heap.size + 1, 1, none⟩ = some (.int .i64 (x1 : Int)) ∧ X.cell? ⟨w1.heap.size + 1, 2, none⟩ = some (.int .i64 (x2 : Int))) V2 := by
              rw [hV2]
              exact ⟨by rw [World.cell?_setCell_other _ _ _ _ (by simp)]; exact S1.1, by rw [World.cell?_setCell_other _ _ _ _ (by simp)]; exact S1.2.1, by rw [World.cell?_setCell_other _ _ _ _ (by simp)]; exact S1.2.2⟩
            have S3 : (fun X : World => X.cell? ⟨w1.heap.size + 1, 0, none⟩ = some (.int .i64 (x0 : Int)) ∧ X.cell? ⟨w1.heap.size + 1, 1, none⟩ = some (.int .i64 (x1 : Int)) ∧ X.cell? ⟨w1.heap.size + 1, 2, none⟩ = some (.int .i64 (x2 : Int))) V3 := by
              rw [hV3]
              exact ⟨by rw [World.cell?_setCell_other _ _ _ _ (by simp)]; exact S2.1, by rw [World.cell?_setCell_other _ _ _ _ (by simp)]; exact S2.2.1, by rw [World.cell?_setCell_other _ _ _ _ (by simp)]; exact S2.2.2⟩
            have c1 := cell_of_block p1d 1
            have f1 := frozen_of_block p1d 1
            have c2 := cell_of_block q1 2
            have f2 := frozen_of_block q1 2
            have c3 := cell_of_block q2 3
            have f3 := frozen_of_block q2 3
            simp only [List.getElem?_toArray, List.getElem?_cons_zero, List.getElem?_cons_succ] at c1 c2 c3
            have HV1 : Hid (V1 = wd.setCell ⟨w1.heap.size, 1, none⟩ (.int .i64 (x0 : Int))) := hV1
            have HV2 : Hid (V2 = V1.setCell ⟨w1.heap.size, 2, none⟩ (.int .i64 (x1 : Int))) := hV2
            have HV3 : Hid (V3 = V2.setCell ⟨w1.heap.size, 3, none⟩ (.int .i64 (x2 : Int))) := hV3
            clear hV1 hV2 hV3 p0d p1d q1 q2 kD
            refine held_take (i := 0) (v := .pointer (some ⟨w1.heap.size + 1, 0, none⟩)) 65 rfl rfl (by kernel_rfl) (by kernel_rfl) (by kernel_rfl) rfl (fun w' hw' => by obtain ⟨r0, r1, r2⟩ := hw'; go_simp) S0 ?_
            simp only [Act.put, List.setIfInBounds_toArray, List.set_cons_zero, List.set_cons_succ]
            refine held_take (i := 1) (v := .int .i64 (x0 : Int)) 66 rfl rfl (by kernel_rfl) (by kernel_rfl) (by kernel_rfl) rfl (fun w' hw' => by obtain ⟨r0, r1, r2⟩ := hw'; go_simp) S0 ?_
            simp only [Act.put, List.setIfInBounds_toArray, List.set_cons_zero, List.set_cons_succ]
            refine held_take (i := 2) (v := .pointer (some ⟨w1.heap.size + 1, 1, none⟩)) 67 rfl rfl (by kernel_rfl) (by kernel_rfl) (by kernel_rfl) rfl (fun w' hw' => by obtain ⟨r0, r1, r2⟩ := hw'; go_simp) S0 ?_
            simp only [Act.put, List.setIfInBounds_toArray, List.set_cons_zero, List.set_cons_succ]
            refine held_take (i := 3) (v := .int .i64 (x1 : Int)) 68 rfl rfl (by kernel_rfl) (by kernel_rfl) (by kernel_rfl) rfl (fun w' hw' => by obtain ⟨r0, r1, r2⟩ := hw'; go_simp) S0 ?_
            simp only [Act.put, List.setIfInBounds_toArray, List.set_cons_zero, List.set_cons_succ]
            refine held_take (i := 4) (v := .pointer (some ⟨w1.heap.size + 1, 2, none⟩)) 69 rfl rfl (by kernel_rfl) (by kernel_rfl) (by kernel_rfl) rfl (fun w' hw' => by obtain ⟨r0, r1, r2⟩ := hw'; go_simp) S0 ?_
            simp only [Act.put, List.setIfInBounds_toArray, List.set_cons_zero, List.set_cons_succ]
            refine held_take (i := 5) (v := .int .i64 (x2 : Int)) 70 rfl rfl (by kernel_rfl) (by kernel_rfl) (by kernel_rfl) rfl (fun w' hw' => by obtain ⟨r0, r1, r2⟩ := hw'; go_simp) S0 ?_
            simp only [Act.put, List.setIfInBounds_toArray, List.set_cons_zero, List.set_cons_succ]
            refine held_take (i := 6) (v := .pointer (some ⟨w1.heap.size, 1, none⟩)) 71 rfl rfl (by kernel_rfl) (by kernel_rfl) (by kernel_rfl) rfl (fun w' hw' => by obtain ⟨r0, r1, r2⟩ := hw'; go_simp) S0 ?_
            simp only [Act.put, List.setIfInBounds_toArray, List.set_cons_zero, List.set_cons_succ]
            refine held_none (i := 7) (w' := V1) (by kernel_rfl) rfl rfl rfl (by rw [HV1.out]; go_simp) S1 ?_
            refine held_take (i := 8) (v := .pointer (some ⟨w1.heap.size, 2, none⟩)) 72 rfl rfl (by kernel_rfl) (by kernel_rfl) (by kernel_rfl) rfl (fun w' hw' => by obtain ⟨r0, r1, r2⟩ := hw'; go_simp) S1 ?_
            simp only [Act.put, List.setIfInBounds_toArray, List.set_cons_zero, List.set_cons_succ]
            refine held_none (i := 9) (w' := V2) (by kernel_rfl) rfl rfl rfl (by rw [HV2.out]; go_simp) S2 ?_
            refine held_take (i := 10) (v := .pointer (some ⟨w1.heap.size, 3, none⟩)) 73 rfl rfl (by kernel_rfl) (by kernel_rfl) (by kernel_rfl) rfl (fun w' hw' => by obtain ⟨r0, r1, r2⟩ := hw'; go_simp) S2 ?_
            simp only [Act.put, List.setIfInBounds_toArray, List.set_cons_zero, List.set_cons_succ]
            refine held_none (i := 11) (w' := V3) (by kernel_rfl) rfl rfl rfl (by rw [HV3.out]; go_simp) S3 ?_
            refine held_end (by kernel_rfl) ?_ _
            clear S0 S1 S2 S3 c1 c2 c3 f1 f2 f3 z0d z1d z2d HV1 HV2 HV3
            have cl := HCL.out V3 kV
            have HLE0 : Hid (lastW (h :: ws) = lastW (h :: ws)) := rfl
            have hLW : (lastW (h :: ws)).length ≤ 140737488355328 := by
              rcases hLl with q | q
              · exact q
              · exfalso; have := HLEN.out; rw [q] at this; simp at this
            have HIB := rislabel_any (lastW (h :: ws))
            obtain ⟨LW, hLWe⟩ : ∃ LW, LW = lastW (h :: ws) := ⟨_, rfl⟩
            rw [← hLWe] at cl hLW HIB
            have HLE : Hid (lastW (h :: ws) = LW) := hLWe.symm
            have hN1i : (N : Int) - 1 = (ws.length : Int) := len_less HNE.out HLEN.out
            have hwN : (ws.length : Int) < N := len_lt HNE.out HLEN.out
            have hwc : (ws.length : Int) < cap := len_cap hwN hcN
            have hw4 : (ws.length : Int) ≤ 4 := len4 HLEN.out hm3
            have hwr : wrap64 (ws.length : Int) = (ws.length : Int) := wrap_small hw4
            clear hLWe hLl HCL HLE0
            clear hw hcap hg2 hk0 hk1 hk00 g1 g2 hmi hjm hjl hq0 hq1 hq2 hji hNp
            cases tb
            · have hlab : (false && labB LW) = false := rfl
              clear HIB
              have NU := rnumber_max LW hLW V3
              unfold MaxPost at NU
              cases hd : decL LW with
              | none =>
                rw [hd] at NU
                dsimp only at NU
                have hR := HBAD.out (HIDD.out.none HNB.out.symm (by rw [← HTB.out, HLE.out]; exact hlab) (by rw [HLE.out]; exact hd)) ⟨k, x0, x1, x2, 0⟩ []
                have q4 : (V3.setCell ⟨w1.heap.size, 4, none⟩ (.int .u64 (0 : Int))).heap[w1.heap.size]? = some (.cells #[.int .i64 (k : Int), .int .i64 (x0 : Int), .int .i64 (x1 : Int), .int .i64 (x2 : Int), .int .u64 (0 : Int)] 45 (0, 0)) := block_set q3 4 (.int .u64 (0 : Int))
                have cN := cell_of_block q3 4
                have fN := frozen_of_block q3 4
                simp only [List.getElem?_toArray, List.getElem?_cons_zero, List.getElem?_cons_succ] at cN
                have kV4 := kV.setCell (p := ⟨w1.heap.size, 4, none⟩) (.inl HHS.out.1) (.int .u64 (0 : Int))
                have p0W := (Below.heap_setCell V3 (⟨w1.heap.size, 4, none⟩ : Addr) (.int .u64 (0 : Int)) w.heap.size (by simpa using HHS.out.2)).trans p0V
                have B1H : Hid (_ = _) := q4
                have B0H : Hid (_ = _) := p0W
                have kz := kV4.row (Nat.le_refl w.heap.size) #[.int .i64 (k : Int), .int .i64 (x0 : Int), .int .i64 (x1 : Int), .int .i64 (x2 : Int), .int .u64 (0 : Int)]
                clear HBAD HOK HIDD q3 q4 kV kV4 p0V p0W
                go_wp2_with fail
                refine NU.mono ?_
                rintro e w3 ⟨rfl, hw3⟩
                replace hw3 := hw3.symm
                subst hw3
                clear NU
                go_wp2_with (first
                  | (refine wpList_load_row rfl 45 _ rfl w1.heap.size rfl 45 _ (0, 0) _ B1H.out Tryz.underlying45 rfl (by rw [size_ins]; rfl) ?_)
                  | (refine wpList_store_row' rfl 45 _ _ rfl w.heap.size _ rfl rfl 45 _ B0H.out size_ins rfl (by simp [Value.oneCell']) ?_))
                refine bodyPost_ret (ins_ret3 rfl _ _ w.heap.size _ _ B0H.out rfl rfl) rfl ?_
                exact ⟨hR, kz⟩
              | some n =>
                rw [hd] at NU
                dsimp only at NU
                have hP := HIDD.out.num HAL.out HNB.out.symm (by rw [← HTB.out, HLE.out]; exact hlab) n (by rw [HLE.out]; exact hd)
                rw [HRR.out, HRR.out, HRR.out, HXX.out.1, HXX.out.2.1, HXX.out.2.2] at hP
                have hR := HOK.out _ hP.1 [] (by rw [hP.2]; rfl)
                have hn64 := decL_lt hd
                clear hP
                have q4 : (V3.setCell ⟨w1.heap.size, 4, none⟩ (.int .u64 (n : Int))).heap[w1.heap.size]? = some (.cells #[.int .i64 (k : Int), .int .i64 (x0 : Int), .int .i64 (x1 : Int), .int .i64 (x2 : Int), .int .u64 (n : Int)] 45 (0, 0)) := block_set q3 4 (.int .u64 (n : Int))
                have cN := cell_of_block q3 4
                have fN := frozen_of_block q3 4
                simp only [List.getElem?_toArray, List.getElem?_cons_zero, List.getElem?_cons_succ] at cN
                have kV4 := kV.setCell (p := ⟨w1.heap.size, 4, none⟩) (.inl HHS.out.1) (.int .u64 (n : Int))
                have p0W := (Below.heap_setCell V3 (⟨w1.heap.size, 4, none⟩ : Addr) (.int .u64 (n : Int)) w.heap.size (by simpa using HHS.out.2)).trans p0V
                have B1H : Hid (_ = _) := q4
                have B0H : Hid (_ = _) := p0W
                have kz := kV4.row (Nat.le_refl w.heap.size) #[.int .i64 (k : Int), .int .i64 (x0 : Int), .int .i64 (x1 : Int), .int .i64 (x2 : Int), .int .u64 (n : Int)]
                clear HBAD HOK HIDD q3 q4 kV kV4 p0V p0W
                go_wp2_with fail
                refine NU.mono ?_
                rintro e w3 ⟨rfl, hw3⟩
                replace hw3 := hw3.symm
                subst hw3
                clear NU
                go_wp2_with (first
                  | (refine wpList_load_row rfl 45 _ rfl w1.heap.size rfl 45 _ (0, 0) _ B1H.out Tryz.underlying45 rfl (by rw [size_ins]; rfl) ?_)
                  | (refine wpList_store_row' rfl 45 _ _ rfl w.heap.size _ rfl rfl 45 _ B0H.out size_ins rfl (by simp [Value.oneCell']) ?_))
                refine bodyPost_ret (ins_ret3 rfl _ _ w.heap.size _ _ B0H.out rfl rfl) rfl ?_
                exact ⟨hR, kz⟩
            · cases hlb : labB LW
              · have hlab : (true && labB LW) = false := by rw [hlb]; rfl
                rw [hlb] at HIB
                go_wp2_with fail
                refine (HIB _).mono ?_
                rintro e V4 ⟨rfl, k4⟩
                clear HIB cl
                obtain ⟨V3', hV3'⟩ : ∃ V, V = V4 := ⟨_, rfl⟩
                have q3' := (k4.block _ (lt_of_block q3) (fun f => f)).trans q3
                have p0V' := (k4.block _ (lt_of_block p0V) (fun f => f)).trans p0V
                have kV' := kV.trans k4
                clear q3 p0V kV k4 hV3'
                clear V3'
                have NU := rnumber_max LW hLW V4
                unfold MaxPost at NU
                cases hd : decL LW with
                | none =>
                  rw [hd] at NU
                  dsimp only at NU
                  have hR := HBAD.out (HIDD.out.none HNB.out.symm (by rw [← HTB.out, HLE.out]; exact hlab) (by rw [HLE.out]; exact hd)) ⟨k, x0, x1, x2, 0⟩ []
                  have q4 : (V4.setCell ⟨w1.heap.size, 4, none⟩ (.int .u64 (0 : Int))).heap[w1.heap.size]? = some (.cells #[.int .i64 (k : Int), .int .i64 (x0 : Int), .int .i64 (x1 : Int), .int .i64 (x2 : Int), .int .u64 (0 : Int)] 45 (0, 0)) := block_set q3' 4 (.int .u64 (0 : Int))
                  have cN := cell_of_block q3' 4
                  have fN := frozen_of_block q3' 4
                  simp only [List.getElem?_toArray, List.getElem?_cons_zero, List.getElem?_cons_succ] at cN
                  have kV4 := kV'.setCell (p := ⟨w1.heap.size, 4, none⟩) (.inl HHS.out.1) (.int .u64 (0 : Int))
                  have p0W := (Below.heap_setCell V4 (⟨w1.heap.size, 4, none⟩ : Addr) (.int .u64 (0 : Int)) w.heap.size (by simpa using HHS.out.2)).trans p0V'
                  have B1H : Hid (_ = _) := q4
                  have B0H : Hid (_ = _) := p0W
                  have kz := kV4.row (Nat.le_refl w.heap.size) #[.int .i64 (k : Int), .int .i64 (x0 : Int), .int .i64 (x1 : Int), .int .i64 (x2 : Int), .int .u64 (0 : Int)]
                  clear HBAD HOK HIDD q3' q4 kV' kV4 p0V' p0W
                  go_wp2_with fail
                  refine NU.mono ?_
                  rintro e w3 ⟨rfl, hw3⟩
                  replace hw3 := hw3.symm
                  subst hw3
                  clear NU
                  go_wp2_with (first
                    | (refine wpList_load_row rfl 45 _ rfl w1.heap.size rfl 45 _ (0, 0) _ B1H.out Tryz.underlying45 rfl (by rw [size_ins]; rfl) ?_)
                    | (refine wpList_store_row' rfl 45 _ _ rfl w.heap.size _ rfl rfl 45 _ B0H.out size_ins rfl (by simp [Value.oneCell']) ?_))
                  refine bodyPost_ret (ins_ret3 rfl _ _ w.heap.size _ _ B0H.out rfl rfl) rfl ?_
                  exact ⟨hR, kz⟩
                | some n =>
                  rw [hd] at NU
                  dsimp only at NU
                  have hP := HIDD.out.num HAL.out HNB.out.symm (by rw [← HTB.out, HLE.out]; exact hlab) n (by rw [HLE.out]; exact hd)
                  rw [HRR.out, HRR.out, HRR.out, HXX.out.1, HXX.out.2.1, HXX.out.2.2] at hP
                  have hR := HOK.out _ hP.1 [] (by rw [hP.2]; rfl)
                  have hn64 := decL_lt hd
                  clear hP
                  have q4 : (V4.setCell ⟨w1.heap.size, 4, none⟩ (.int .u64 (n : Int))).heap[w1.heap.size]? = some (.cells #[.int .i64 (k : Int), .int .i64 (x0 : Int), .int .i64 (x1 : Int), .int .i64 (x2 : Int), .int .u64 (n : Int)] 45 (0, 0)) := block_set q3' 4 (.int .u64 (n : Int))
                  have cN := cell_of_block q3' 4
                  have fN := frozen_of_block q3' 4
                  simp only [List.getElem?_toArray, List.getElem?_cons_zero, List.getElem?_cons_succ] at cN
                  have kV4 := kV'.setCell (p := ⟨w1.heap.size, 4, none⟩) (.inl HHS.out.1) (.int .u64 (n : Int))
                  have p0W := (Below.heap_setCell V4 (⟨w1.heap.size, 4, none⟩ : Addr) (.int .u64 (n : Int)) w.heap.size (by simpa using HHS.out.2)).trans p0V'
                  have B1H : Hid (_ = _) := q4
                  have B0H : Hid (_ = _) := p0W
                  have kz := kV4.row (Nat.le_refl w.heap.size) #[.int .i64 (k : Int), .int .i64 (x0 : Int), .int .i64 (x1 : Int), .int .i64 (x2 : Int), .int .u64 (n : Int)]
                  clear HBAD HOK HIDD q3' q4 kV' kV4 p0V' p0W
                  go_wp2_with fail
                  refine NU.mono ?_
                  rintro e w3 ⟨rfl, hw3⟩
                  replace hw3 := hw3.symm
                  subst hw3
                  clear NU
                  go_wp2_with (first
                    | (refine wpList_load_row rfl 45 _ rfl w1.heap.size rfl 45 _ (0, 0) _ B1H.out Tryz.underlying45 rfl (by rw [size_ins]; rfl) ?_)
                    | (refine wpList_store_row' rfl 45 _ _ rfl w.heap.size _ rfl rfl 45 _ B0H.out size_ins rfl (by simp [Value.oneCell']) ?_))
                  refine bodyPost_ret (ins_ret3 rfl _ _ w.heap.size _ _ B0H.out rfl rfl) rfl ?_
                  exact ⟨hR, kz⟩
              · rw [hlb] at HIB
                have hP := HIDD.out.label HAL.out HNB.out.symm HTB.out.symm (by rw [HLE.out]; exact hlb)
                rw [HRR.out, HRR.out, HRR.out, HXX.out.1, HXX.out.2.1, HXX.out.2.2] at hP
                have hR := HOK.out _ hP.1 LW (by rw [hP.2, if_pos rfl]; exact HLE.out)
                clear hP
                go_wp2_with fail
                refine (HIB _).mono ?_
                rintro e V4 ⟨rfl, k4⟩
                clear HIB cl
                have q3' := (k4.block _ (lt_of_block q3) (fun f => f)).trans q3
                have p0V' := (k4.block _ (lt_of_block p0V) (fun f => f)).trans p0V
                have kV' := kV.trans k4
                clear q3 p0V kV k4
                have kz := kV'.row (Nat.le_refl w.heap.size) #[.int .i64 (k : Int), .int .i64 (x0 : Int), .int .i64 (x1 : Int), .int .i64 (x2 : Int), .int .u64 0]
                have B1H : Hid (_ = _) := q3'
                have B0H : Hid (_ = _) := p0V'
                clear HBAD HOK HIDD
                go_wp2_with (first
                  | (refine wpList_load_row rfl 45 _ rfl w1.heap.size rfl 45 _ (0, 0) _ B1H.out Tryz.underlying45 rfl (by rw [size_ins]; rfl) ?_)
                  | (refine wpList_store_row' rfl 45 _ _ rfl w.heap.size _ rfl rfl 45 _ B0H.out size_ins rfl (by simp [Value.oneCell']) ?_))
                refine bodyPost_ret (ins_ret3 rfl _ _ w.heap.size _ _ B0H.out rfl rfl) rfl ?_
                exact ⟨hR, kz⟩

      · have hR := HBAD.out (HNL.out (by rw [HPN.out]; simpa using hlen)) ⟨0, 0, 0, 0, 0⟩ []
        have kz := kk1.row (Nat.le_refl w.heap.size) #[.int .i64 0, .int .i64 0, .int .i64 0, .int .i64 0, .int .u64 0]
        have g1 : ((N : Int) != 1 + (m : Int) + 1) = true := by simp; omega
        have g2 : ((N : Int) == 1 + (m : Int) + 1) = false := by simp; omega
        clear HBAD HOK HC HLA HLW HNL HID HPN
        go_wp2_with (refine wpList_store_row' rfl 45 _ _ rfl w.heap.size _ rfl rfl 45 _ b0 size_ins rfl (by simp [Value.oneCell']) ?_)
        refine bodyPost_ret (ins_ret3 rfl _ _ w.heap.size _ _ b0 rfl rfl) rfl ?_
        exact ⟨hR, kz⟩
end Go.Proofs.YtppejcfghlpbjaaGreatDoor


/- Walk of the document's Read (package parleyref09). No statement of the seat is proved here. -/
namespace Go.Proofs.YtppejcfghlpbjaaGreatDoor
open Go.RowKit Go.Shelf

/-- What Read answers. -/
def RePost (s : List UInt8) (w : World) (e : Ending) (w' : World) : Prop := match readT s with
  | (n, some (code, labs)) => ∃ vc vl, e = .returned (.tuple #[vc, vl, .int .i64 (n : Int), .bool true]) ∧ Irs w' w.heap.size vc code ∧ w'.ownsRow w.heap.size 157 2 vl labs.length (labV labs) ∧ (∀ i ∈ code, i.wf)
  | (n, none) => e = .returned (.tuple #[.slice none 0 0, .slice none 0 0, .int .i64 (n : Int), .bool false])
def strLen : Value → Nat
  | .string b => b.size
  | _ => 0
/-- What the lines so far have left. -/
structure RdS (s : List UInt8) (base : Nat) (w0 : World) (vp vl vn va vi : Value) (r : Rd) (n f : Nat) (W : World) : Prop where
  rows : DR W base vp vl vn va vi r
  kept : Keeps (fun _ => False) w0 W
  reads : readR ⟨[], [], []⟩ 0 (linesL s) = readR r n (linesL (s.drop f))
  labs : r.labs.length ≤ f
  code : r.code.length ≤ n
  uses : r.uses.length ≤ n
/-- What stands while labels are put in the place of targets. -/
structure UsS (base : Nat) (w0 : World) (vp vl vn va vi : Value) (r : Rd) (code' : List I5) (k : Nat) (W : World) : Prop where
  rows : DR W base vp vl vn va vi { r with code := code' }
  kept : Keeps (fun _ => False) w0 W
  len : code'.length = r.code.length
  res : resR r.labs r.code r.uses = resR r.labs code' (r.uses.drop k)
theorem resR_no {labs : List (List UInt8 × Nat)} {code : List I5} {us : List (List UInt8 × Nat × Nat)} {k : Nat} (hk : k < us.length) (h : labs.lookup (us[k]).1 = none) : resR labs code (us.drop k) = (some (us[k]).2.2, code) := by
  rw [List.drop_eq_getElem_cons hk]
  generalize us[k] = u at *
  obtain ⟨a, b, c⟩ := u
  dsimp only at h ⊢
  rw [resR, h]
theorem resR_yes {labs : List (List UInt8 × Nat)} {code : List I5} {us : List (List UInt8 × Nat × Nat)} {k p : Nat} (hk : k < us.length) (h : labs.lookup (us[k]).1 = some p) : resR labs code (us.drop k) = resR labs (setN code (us[k]).2.1 p) (us.drop (k + 1)) := by
  rw [List.drop_eq_getElem_cons hk]
  generalize us[k] = u at *
  obtain ⟨a, b, c⟩ := u
  dsimp only at h ⊢
  rw [resR, h]
theorem readT_bad {s : List UInt8} {n : Nat} (h : readR ⟨[], [], []⟩ 0 (linesL s) = (n, none)) : readT s = (n, none) := by
  unfold readT; rw [h]
theorem readT_res {s : List UInt8} {n : Nat} {r : Rd} (h : readR ⟨[], [], []⟩ 0 (linesL s) = (n, some r)) : readT s = match resR r.labs r.code r.uses with
    | (some line, _) => (line, none)
    | (none, code) => (n, some (code, r.labs)) := by
  unfold readT; rw [h]
  dsimp only
  cases resR r.labs r.code r.uses with
  | mk a b => cases a <;> rfl

/-- What stands while the labels of a line are taken. -/
structure RdC (m : Nat) (base : Nat) (w0 : World) (vp vl vn va vi : Value) (r r1 : Rd) (n : Nat) (body q : List UInt8) (W : World) : Prop where
  rows : DR W base vp vl vn va vi r1
  kept : Keeps (fun _ => False) w0 W
  reads : colR r n body = colR r1 n q
  code : r1.code = r.code
  uses : r1.uses = r.uses
  labs : r1.labs.length + q.length ≤ m
theorem RdC.keeps {m base : Nat} {w0 : World} {vp vl vn va vi : Value} {r r1 : Rd} {n : Nat} {body q : List UInt8} {W W' : World} (h : RdC m base w0 vp vl vn va vi r r1 n body q W) (k : Keeps (fun _ => False) W W') : RdC m base w0 vp vl vn va vi r r1 n body q W' :=
  ⟨h.rows.keeps k, h.kept.trans k, h.reads, h.code, h.uses, h.labs⟩
/-- A whole row stored; the world behind it has a name. -/
theorem wpList_store_rowX {P : Program} {ops : Array Oper} {rest : List Oper} {op : Oper} {a : Act} {w X : World} {Q : Exit → Act → World → Prop} (hgd : op.guard = none) (ty : TypeId) (x y : Operand) (ho : op.op = .store ty x y)
    (g : Nat) (cells : Array Value) (hx : a.eval x = .pointer (some ⟨g, 0, none⟩)) (hy : a.eval y = .agg cells) (t : TypeId) (old : Array Value) (hg : w.heap[g]? = some (.cells old t (0, 0))) (hi : (P.info? ty).map (·.size) = some cells.size)
    (hold : old.size = cells.size) (h1 : cells.all (·.oneCell') = true) (hX : X = w.setRow g cells) (h : wpList P ops Q rest (a.put op.dst undef) X) : wpList P ops Q (op :: rest) a w :=
  wpList_store_row' hgd ty x y ho g cells hx hy t old hg hi hold h1 (hX ▸ h)
theorem results_tmp4 {fn : Func} {p u v x : Tmp} (h : fn.results = #[.tmp p, .tmp u, .tmp v, .tmp x]) (tmps : Array Value) (P : Program) (w : World) :
    (results fn tmps).run P w = .ok (.tuple #[tmps.getD p undef, tmps.getD u undef, tmps.getD v undef, tmps.getD x undef]) w := by
  simp only [results, h]
  simp

end Go.Proofs.YtppejcfghlpbjaaGreatDoor


/- The law's walk: what is read of a text is what the document reads. No statement of the seat is proved here. -/
namespace Go.Proofs.YtppejcfghlpbjaaGreatDoor
open Go.RowKit Go.Shelf

theorem Keeps.setCells {S : Nat → Prop} {a : World} {b : Nat} (hp : a.heap.size ≤ b ∨ S b) : ∀ (vs : List Value) (o : Nat) (w : World), Keeps S a w → Keeps S a (w.setCells b o vs)
  | [], _, _, h => h
  | v :: r, o, _, h => Keeps.setCells hp r (o + 1) _ (h.setCell (p := ⟨b, o, none⟩) hp v)
theorem block_setCells {b : Nat} {t : TypeId} : ∀ (vs : List Value) (o : Nat) (w : World) (c : Array Value), w.heap[b]? = some (.cells c t (0, 0)) → ∃ c', (w.setCells b o vs).heap[b]? = some (.cells c' t (0, 0)) ∧ c'.size = c.size
  | [], _, _, c, h => ⟨c, h, rfl⟩
  | v :: r, o, w, c, h => by
    obtain ⟨c', h1, h2⟩ := block_setCells r (o + 1) _ _ (block_set h o v)
    exact ⟨c', h1, by rw [h2]; simp⟩
theorem there_block {w : World} {b : Nat} {t : TypeId} {c : Array Value} (h : w.heap[b]? = some (.cells c t (0, 0))) (o n : Nat) (hn : o + n ≤ c.size) : w.there b o n := fun j hj => ⟨by rw [cell_of_block h, Array.getElem?_eq_getElem (by omega)]; rfl, frozen_of_block h _⟩
theorem wpList_store_run {P : Program} {ops : Array Oper} {rest : List Oper} {op : Oper} {a : Act} {w w' : World} {Q : Exit → Act → World → Prop} (hgd : op.guard = none) (ty : TypeId) (x y : Operand) (ho : op.op = .store ty x y) {p v : Value} (hx : a.eval x = p) (hy : a.eval y = v)
    (hr : (Instr.storeAt ty p v).run P w = .ok () w') (h : wpList P ops Q rest (a.put op.dst undef) w') : wpList P ops Q (op :: rest) a w :=
  wpList_plain hgd fun _ hK => by
    unfold Oper.wp execOp
    simp only [ho, hx, hy, hr, Sem.run_bind, Result.andThen_ok]
    exact hK _ _ h
theorem keeps_up {S : Nat → Prop} {a b c : World} (k : Keeps (fun _ => False) a b) (k2 : Keeps S b c) (hS : ∀ q, S q → a.heap.size ≤ q) : Keeps (fun _ => False) a c :=
  ⟨k2.os.trans k.os, k2.tape.trans k.tape, k2.output.trans k.output, Nat.le_trans k.size k2.size, fun g hg _ => (k2.block g (Nat.lt_of_lt_of_le hg k.size) (fun e => by have := hS g e; omega)).trans (k.block g hg (fun f => f))⟩
/-- A row that is there, to be written over. -/
def There (w : World) (v : Value) (n : Nat) (ty : TypeId) (sz : Nat) : Prop := n = 0 ∨ ∃ g cap cur, v = .slice (some ⟨g, 0, none⟩) n cap ∧ n ≤ cap ∧ w.heap[g]? = some (.cells cur ty (0, 0)) ∧ n * sz ≤ cur.size
theorem there_own {w : World} {base size : Nat} {e : TypeId} {v : Value} {n : Nat} {xs : List Value} (h : w.ownsRow base e size v n xs) : There w v n e size := by
  rcases h.2 with ⟨rfl, h2⟩ | ⟨g, cap, cur, rfl, h1, h2, h3, h4, h5, h6⟩
  · exact .inl h2
  · exact .inr ⟨g, cap, cur, rfl, h3, h2, by rw [h5]; exact Nat.mul_le_mul_right _ h3⟩
theorem size_lab : (Tryz.prog.info? 157).map (·.size) = some 2 := by kernel_rfl

theorem bodyK_len (l : List UInt8) : (bodyL l).length ≤ l.length := by
  unfold bodyL
  refine Nat.le_trans (List.takeWhile_sublist _).length_le ?_
  split
  · simp
  · exact Nat.le_refl _
theorem readR_tot : ∀ (L : List (List UInt8)) (r0 r : Rd) (n m : Nat), readR r0 n L = (m, some r) → totR r ≤ totR r0 + L.flatten.length + 2 * L.length
  | [], r0, r, n, m, h => by
    rw [readR] at h
    cases h
    simp
  | x :: L, r0, r, n, m, h => by
    rw [readR] at h
    cases hl : lineR r0 n (toks (bodyL x)) with
    | none => rw [hl] at h; cases h
    | some r1 =>
      rw [hl] at h
      have h1 := readR_tot L r1 r (n + 1) m h
      have h2 := lineR_len n _ _ _ hl
      have h3 := toks_len (bodyL x)
      have h4 := bodyK_len x
      simp only [List.flatten_cons, List.length_append, List.length_cons]
      omega
theorem resR_len : ∀ (us : List (List UInt8 × Nat × Nat)) (labs : List (List UInt8 × Nat)) (code c' : List I5), resR labs code us = (none, c') → c'.length = code.length
  | [], labs, code, c', h => by rw [resR] at h; cases h; rfl
  | (a, b, c) :: us, labs, code, c', h => by
    rw [resR] at h
    cases hl : labs.lookup a with
    | none => rw [hl] at h; cases h
    | some p =>
      rw [hl] at h
      have := resR_len us labs _ c' h
      rw [this, setN_len]
theorem readT_len {s : List UInt8} {n : Nat} {code : List I5} {labs : List (List UInt8 × Nat)} (h : readT s = (n, some (code, labs))) : code.length + labs.length ≤ 3 * s.length := by
  cases hr : readR ⟨[], [], []⟩ 0 (linesL s) with
  | mk m o =>
    cases o with
    | none => rw [readT_bad hr] at h; cases h
    | some r =>
      rw [readT_res hr] at h
      have h1 := readR_tot _ _ _ _ _ hr
      rw [linesL_flat] at h1
      have h2 := linesL_len s
      simp only [totR, List.length_nil] at h1
      cases hq : resR r.labs r.code r.uses with
      | mk a c' =>
        rw [hq] at h
        cases a with
        | some line => cases h
        | none =>
          cases h
          have := resR_len _ _ _ _ hq
          omega

end Go.Proofs.YtppejcfghlpbjaaGreatDoor
