
/- Walks of the document's Parse (package parleyref08). No statement of the seat is proved here. -/
import Derived.Test.YtepigjbnpkpanaaDoorRpB
namespace Go.Proofs.YtepigjbnpkpanaaDoor
open Go.RowKit Go.Shelf

/-- What the document's Parse answers. -/
def RPost (l : List UInt8) (e : Ending) : Prop := match parseL l with
  | some i => e = .returned (.tuple #[.agg i.cells, .bool true])
  | none => e = .returned (.tuple #[.agg #[.int .i64 0, .int .i64 0, .int .i64 0, .int .i64 0, .int .u64 0], .bool false])
theorem decAll_at : ∀ (ws : List (List UInt8)) (N : List Int), decAll ws = some N → ∀ (j : Nat) (x : List UInt8), ws[j]? = some x → ∀ n : Nat, decL x = some n → N[j]? = some (n : Int)
  | [], _, _, j, x, h, _, _ => by simp at h
  | y :: t, N, h, j, x, hj, n, hn => by
    rw [decAll] at h
    split at h
    · cases h
    · rename_i m hm
      obtain ⟨R, hR, rfl⟩ := Option.map_eq_some_iff.1 h
      cases j with
      | zero => simp at hj; subst hj; rw [hn] at hm; cases hm; rfl
      | succ j => simpa using decAll_at t R hR j x (by simpa using hj) n hn
theorem regOk_no {op : Int} {N : List Int} {r j n : Nat} (hr : regsN op = r) (h : N[j]? = some (n : Int)) (hj : j < r) (hn : ¬ n < 8) : ¬ regOk op N = true := by
  intro hc
  unfold regOk at hc
  rw [hr, List.all_eq_true] at hc
  have hm : (n : Int) ∈ N.take r := List.mem_of_getElem? (i := j) (by rw [List.getElem?_take_of_lt hj]; exact h)
  have := hc _ hm
  simp at this
  omega
theorem wlen_2 {L : List (List UInt8)} (h : L.length = 2) : ∃ x y, L = [x, y] := by
  match L, h with
  | [x, y], _ => exact ⟨x, y, rfl⟩
theorem wlen_3 {L : List (List UInt8)} (h : L.length = 3) : ∃ x y z, L = [x, y, z] := by
  match L, h with
  | [x, y, z], _ => exact ⟨x, y, z, rfl⟩

set_option maxRecDepth 100000 in
set_option maxHeartbeats 8000000 in
theorem rparse_any (l : List UInt8) (hl : l.length ≤ 1048576) (w : World) : Calls Tryd.prog 22 #[.string ⟨l.toArray⟩] w fun e w' => RPost l e ∧ Keeps (fun _ => False) w w' := by
  have kA := (Keeps.refl (fun _ => False) w).alloc (.cells #[.int .i64 0, .int .i64 0, .int .i64 0, .int .i64 0, .int .u64 0] 38)
  have PT := rparts_any l hl (w.alloc (.cells #[.int .i64 0, .int .i64 0, .int .i64 0, .int .i64 0, .int .u64 0] 38))
  have hbad : Hid (parseL l = none → RPost l (.returned (.tuple #[.agg #[.int .i64 0, .int .i64 0, .int .i64 0, .int .i64 0, .int .u64 0], .bool false]))) := fun h => by unfold RPost; rw [h]
  have hgood : Hid (∀ i : I5, parseL l = some i → RPost l (.returned (.tuple #[.agg #[.int .i64 i.op, .int .i64 i.a, .int .i64 i.b, .int .i64 i.c, .int .u64 i.n], .bool true]))) := fun i h => by unfold RPost; rw [h]
  obtain ⟨h, ws, hp⟩ : ∃ h ws, pcs l = h :: ws := by
    cases hq : pcs l with
    | nil => exact absurd hq (pcs_ne l)
    | cons h ws => exact ⟨h, ws, rfl⟩
  have hall : ∀ x ∈ ws, x.length ≤ 140737488355328 := by
    intro x hx
    have := pcs_part l x (by rw [hp]; simp [hx])
    omega
  have HP : Hid (pcs l = h :: ws) := hp
  have hplen : (pcs l).length ≤ 1048577 := by have := pcs_le l; omega
  go_enter Tryd.func22, Tryd.ntmps22
  go_wp2_with fail
  refine PT.mono ?_
  rintro e w1 ⟨v, rfl, hS, k1⟩
  obtain ⟨g, cap, rfl, hcap, hg1, hg2, hc1⟩ := hS.form (pcs_ne l)
  have a1 : w1.heap[w.heap.size]? = some (.cells #[.int .i64 0, .int .i64 0, .int .i64 0, .int .i64 0, .int .u64 0] 38 (0, 0)) := (k1.block _ (by simp) (fun f => f)).trans (MapKept.heap_alloc _ _).1
  have c0 : w1.cell? ⟨g, 0, none⟩ = some (.string ⟨h.toArray⟩) := by
    rw [hc1 0 (by rw [hp]; simp)]
    simp [hp]
  have hge : Hid (w.heap.size ≠ g) := by show w.heap.size ≠ g; simp at hg2; omega
  have kk1 := kA.trans k1
  have NM := rnamed_any h
  have hgz : (0 : Int) < ((pcs l).length : Int) := by have := List.length_pos_iff.2 (pcs_ne l); omega
  clear PT kA hS hp
  go_wp2_with fail
  refine (NM _).mono ?_
  rintro e w2 ⟨hNP, k2⟩
  have a2 := (k2.block _ (lt_of_block a1) (fun f => f)).trans a1
  have hc2 : ∀ j (hj : j < (pcs l).length), w2.cell? ⟨g, j, none⟩ = some (.string ⟨((pcs l)[j]).toArray⟩) := fun j hj => by
    rw [← hc1 j hj]
    simp only [World.cell?, k2.block g hg1 (fun f => f)]
  have hg3 : g < w2.heap.size := Nat.lt_of_lt_of_le hg1 k2.size
  have kk2 := kk1.trans k2
  clear NM k1 k2 kk1 c0 a1 hc1 hg1 hg2
  have prep : ∀ w3, Keeps (fun _ => False) w2 w3 → w3.heap[w.heap.size]? = some (.cells #[.int .i64 0, .int .i64 0, .int .i64 0, .int .i64 0, .int .u64 0] 38 (0, 0)) ∧ (∀ j (hj : j < (pcs l).length), w3.cell? ⟨g, j, none⟩ = some (.string ⟨((pcs l)[j]).toArray⟩)) ∧ g < w3.heap.size ∧ Keeps (fun _ => False) w w3 := fun w3 k3 =>
    ⟨(k3.block _ (lt_of_block a2) (fun f => f)).trans a2, fun j hj => by rw [← hc2 j hj]; simp only [World.cell?, k3.block g hg3 (fun f => f)], Nat.lt_of_lt_of_le hg3 k3.size, kk2.trans k3⟩
  rcases hNP with ⟨k, hk1, hk2, hke, rfl⟩ | ⟨hno, rfl⟩
  · have hnn := namedN_yes hk1 hk2 hke
    have IY := rinfo_yes (k : Int) (by omega) (by omega)
    have hpar0 : parseL l = if ws.length = partsN k then (match decAll ws with | none => none | some N => if regOk k N then some (insOf k N) else none) else none := by
      unfold parseL
      rw [HP.out]
      dsimp only
      rw [hnn]
      rfl
    have hrn : (regsN k = 0 ∧ numB k = false) ∨ (regsN k = 0 ∧ numB k = true) ∨ (regsN k = 1 ∧ numB k = true) ∨ (regsN k = 2 ∧ numB k = false) ∨ (regsN k = 3 ∧ numB k = false) := by
      rcases op17 (op := (k : Int)) (by omega) (by omega) with hq | hq | hq | hq | hq | hq | hq | hq | hq | hq | hq | hq | hq | hq | hq | hq | hq <;> rw [hq] <;> decide
    generalize tgtB k = tb at *
    generalize outB k = ob at *
    generalize insB k = ib at *
    clear hnn
    go_wp2_with fail
    refine (IY _).mono ?_
    rintro e w3 ⟨rfl, k3⟩
    obtain ⟨a3, hcs0, hg4, kk3⟩ := prep w3 k3
    have hcs : ∀ j (hj : j < (h :: ws).length), w3.cell? ⟨g, j, none⟩ = some (.string ⟨((h :: ws)[j]).toArray⟩) := fun j hj => by
      rw [hcs0 j (by rw [HP.out]; exact hj)]
      simp [HP.out]
    have ZA := fun o => ((MapKept.heap_alloc w3 o).2 _ (lt_of_block a3)).trans a3
    have ZB := fun o o' => ((MapKept.heap_alloc (w3.alloc o) o').2 _ (lt_of_block (ZA o))).trans (ZA o)
    have KA := fun o => kk3.alloc o
    have KB := fun o o' => (kk3.alloc o).alloc o'
    have l1 : g < w3.heap.size + 1 := by omega
    have l2 : g < w3.heap.size + 1 + 1 := by omega
    clear prep hcs0 k3 hc2 a2 kk2 hg3
    by_cases hlen : ws.length = partsN k
    · clear IY
      have IY : True ∧ True := ⟨trivial, trivial⟩
      rcases hrn with ⟨hr, hn⟩ | ⟨hr, hn⟩ | ⟨hr, hn⟩ | ⟨hr, hn⟩ | ⟨hr, hn⟩
      · obtain rfl : ws = [] := by simpa [hr, hn, partsN] using hlen
        have hpar : parseL l = match decAll [] with | none => none | some N => if regOk k N then some (insOf k N) else none := by rw [hpar0, if_pos hlen]
        have G : Hid (True → RPost l (.returned (.tuple #[.agg #[.int .i64 k, .int .i64 0, .int .i64 0, .int .i64 0, .int .u64 0], .bool true]))) := fun hg => by
          have hD := decAll_some [] [] rfl
          refine hgood.out ⟨k, 0, 0, 0, 0⟩ ?_
          rw [hpar, hD]
          show (if regOk k [] then some (insOf k []) else none) = _
          rw [if_pos (by simp [regOk, hr])]
          simp [insOf, hr, hn]
        have hlk : (pcs l).length = 1 := by rw [HP.out]; rfl
        rw [hlk] at hcap ⊢
        rw [hr, hn]
        clear hpar hpar0 hlen hcs hall hlk hbad hgood
        go_wp2_with fail
        go_loopw [11] (fun v wr => (v = .int .i64 0 ∧ wr = (w3.alloc (.cells #[.int .i64 0, .bool false, .bool tb, .bool ob, .bool ib] 24)).alloc (.cells #[.int .i64 0, .int .i64 0, .int .i64 0] 78))) (fun v _ => 0 - (intOf v).toNat)
        case atStart => exact ⟨rfl, rfl⟩
        case round =>
          obtain ⟨rfl, rfl⟩ := hrel
          go_wp2_with (refine wpList_store_row' rfl 38 _ _ rfl w.heap.size _ rfl rfl 38 _ (ZB _ _) size_ins rfl (by simp [Value.oneCell']) ?_)
          refine bodyPost_ret (ins_ret rfl _ _ w.heap.size _ _ (ZB _ _) rfl rfl) rfl ?_
          exact ⟨G.out trivial, (KB _ _).row (Nat.le_refl _) _⟩
      · obtain ⟨x, rfl⟩ : ∃ x, ws = [x] := List.length_eq_one_iff.1 (by simpa [hr, hn, partsN] using hlen)
        have cx : w3.cell? ⟨g, 1, none⟩ = some (.string ⟨x.toArray⟩) := hcs 1 (by simp)
        have Dx : ∀ w, Calls Tryd.prog 46 #[.string ⟨x.toArray⟩] w fun e w' => e = .returned (.tuple #[.int .u64 (((decL x).getD 0 : Nat) : Int), .bool (decL x).isSome]) ∧ w' = w := fun w => rnumber_any x (hall _ (by simp)) w
        have Px : Hid ((decL x).isSome = true → decL x = some ((decL x).getD 0)) := fun h => by cases hq : decL x <;> simp_all
        have Lx : ∀ n, decL x = some n → n < 18446744073709551616 := fun n h => decL_lt h
        have hpar : parseL l = match decAll [x] with | none => none | some N => if regOk k N then some (insOf k N) else none := by rw [hpar0, if_pos hlen]
        have Bx : Hid ((decL x).isSome = false → RPost l (.returned (.tuple #[.agg #[.int .i64 0, .int .i64 0, .int .i64 0, .int .i64 0, .int .u64 0], .bool false]))) := fun h => by
          refine hbad.out ?_
          rw [hpar, decAll_none [x] x (by simp) (by simpa using h)]
        have G : Hid (True ∧ (decL x).isSome = true → RPost l (.returned (.tuple #[.agg #[.int .i64 k, .int .i64 0, .int .i64 0, .int .i64 0, .int .u64 (((decL x).getD 0 : Nat) : Int)], .bool true]))) := fun hg => by
          obtain ⟨_, tx⟩ := hg
          have hD := decAll_some [x] [(decL x).getD 0] (by simp [← Px.out tx])
          refine hgood.out ⟨k, 0, 0, 0, (((decL x).getD 0 : Nat) : Int)⟩ ?_
          rw [hpar, hD]
          show (if regOk k [(((decL x).getD 0 : Nat) : Int)] then some (insOf k [(((decL x).getD 0 : Nat) : Int)]) else none) = _
          rw [if_pos (by simp [regOk, hr])]
          simp [insOf, hr, hn]
        have hlk : (pcs l).length = 2 := by rw [HP.out]; rfl
        rw [hlk] at hcap ⊢
        have Mx : Hid (((decL x).getD 0 : Nat) < 18446744073709551616) := by
          show _ < _
          cases hq : decL x with
          | none => simp
          | some n => simpa using Lx n hq
        generalize (decL x).getD 0 = nx at *
        generalize (decL x).isSome = bbx at *
        rw [hr, hn]
        clear hpar hpar0 hlen hcs hall hlk hbad hgood Px Lx
        go_wp2_with fail
        go_loopw [11] (fun v wr => (v = .int .i64 0 ∧ wr = (w3.alloc (.cells #[.int .i64 0, .bool true, .bool tb, .bool ob, .bool ib] 24)).alloc (.cells #[.int .i64 0, .int .i64 0, .int .i64 0] 78))) (fun v _ => 0 - (intOf v).toNat)
        case atStart => exact ⟨rfl, rfl⟩
        case round =>
          obtain ⟨rfl, rfl⟩ := hrel
          cases bbx with
          | false =>
            go_wp2_with (first | (go_at_call 46; refine (Dx _).mono ?_; rintro e w' ⟨rfl, rfl⟩) | (refine wpList_store_row' rfl 38 _ _ rfl w.heap.size _ rfl rfl 38 _ (ZB _ _) size_ins rfl (by simp [Value.oneCell']) ?_))
            refine bodyPost_ret (ins_ret rfl _ _ w.heap.size _ _ (ZB _ _) rfl rfl) rfl ?_
            exact ⟨Bx.out (by first | rfl | trivial), (KB _ _).row (Nat.le_refl _) _⟩
          | true =>
            go_wp2_with (first | (go_at_call 46; refine (Dx _).mono ?_; rintro e w' ⟨rfl, rfl⟩) | (refine wpList_store_row' rfl 38 _ _ rfl w.heap.size _ rfl rfl 38 _ (ZB _ _) size_ins rfl (by simp [Value.oneCell']) ?_))
            refine bodyPost_ret (ins_ret rfl _ _ w.heap.size _ _ (ZB _ _) rfl rfl) rfl ?_
            exact ⟨G.out ⟨trivial, by first | rfl | trivial | assumption⟩, (KB _ _).row (Nat.le_refl _) _⟩
      · obtain ⟨x, y, rfl⟩ := wlen_2 (by simpa [hr, hn, partsN] using hlen)
        have cx : w3.cell? ⟨g, 1, none⟩ = some (.string ⟨x.toArray⟩) := hcs 1 (by simp)
        have Dx : ∀ w, Calls Tryd.prog 46 #[.string ⟨x.toArray⟩] w fun e w' => e = .returned (.tuple #[.int .u64 (((decL x).getD 0 : Nat) : Int), .bool (decL x).isSome]) ∧ w' = w := fun w => rnumber_any x (hall _ (by simp)) w
        have Px : Hid ((decL x).isSome = true → decL x = some ((decL x).getD 0)) := fun h => by cases hq : decL x <;> simp_all
        have Lx : ∀ n, decL x = some n → n < 18446744073709551616 := fun n h => decL_lt h
        have cy : w3.cell? ⟨g, 2, none⟩ = some (.string ⟨y.toArray⟩) := hcs 2 (by simp)
        have Dy : ∀ w, Calls Tryd.prog 46 #[.string ⟨y.toArray⟩] w fun e w' => e = .returned (.tuple #[.int .u64 (((decL y).getD 0 : Nat) : Int), .bool (decL y).isSome]) ∧ w' = w := fun w => rnumber_any y (hall _ (by simp)) w
        have Py : Hid ((decL y).isSome = true → decL y = some ((decL y).getD 0)) := fun h => by cases hq : decL y <;> simp_all
        have Ly : ∀ n, decL y = some n → n < 18446744073709551616 := fun n h => decL_lt h
        have hpar : parseL l = match decAll [x, y] with | none => none | some N => if regOk k N then some (insOf k N) else none := by rw [hpar0, if_pos hlen]
        have Bx : Hid ((decL x).isSome = false → RPost l (.returned (.tuple #[.agg #[.int .i64 0, .int .i64 0, .int .i64 0, .int .i64 0, .int .u64 0], .bool false]))) := fun h => by
          refine hbad.out ?_
          rw [hpar, decAll_none [x, y] x (by simp) (by simpa using h)]
        have By : Hid ((decL y).isSome = false → RPost l (.returned (.tuple #[.agg #[.int .i64 0, .int .i64 0, .int .i64 0, .int .i64 0, .int .u64 0], .bool false]))) := fun h => by
          refine hbad.out ?_
          rw [hpar, decAll_none [x, y] y (by simp) (by simpa using h)]
        have Cx : Hid ((decL x).isSome = true → ¬ ((decL x).getD 0 : Nat) < 8 → RPost l (.returned (.tuple #[.agg #[.int .i64 0, .int .i64 0, .int .i64 0, .int .i64 0, .int .u64 0], .bool false]))) := fun h h' => by
          refine hbad.out ?_
          rw [hpar]
          cases hq : decAll [x, y] with
          | none => rfl
          | some N =>
            have := decAll_at [x, y] N hq 0 x rfl _ (Px.out h)
            show (if regOk k N then some (insOf k N) else none) = none
            rw [if_neg (regOk_no hr this (by decide) (by omega))]
        have G : Hid (True ∧ (decL x).isSome = true ∧ ((decL x).getD 0 : Nat) < 8 ∧ (decL y).isSome = true → RPost l (.returned (.tuple #[.agg #[.int .i64 k, .int .i64 (((decL x).getD 0 : Nat) : Int), .int .i64 0, .int .i64 0, .int .u64 (((decL y).getD 0 : Nat) : Int)], .bool true]))) := fun hg => by
          obtain ⟨_, tx, ux, ty⟩ := hg
          have hD := decAll_some [x, y] [(decL x).getD 0, (decL y).getD 0] (by simp [← Px.out tx, ← Py.out ty])
          refine hgood.out ⟨k, (((decL x).getD 0 : Nat) : Int), 0, 0, (((decL y).getD 0 : Nat) : Int)⟩ ?_
          rw [hpar, hD]
          show (if regOk k [(((decL x).getD 0 : Nat) : Int), (((decL y).getD 0 : Nat) : Int)] then some (insOf k [(((decL x).getD 0 : Nat) : Int), (((decL y).getD 0 : Nat) : Int)]) else none) = _
          rw [if_pos (by simp [regOk, hr]; omega)]
          simp [insOf, hr, hn]
        have hlk : (pcs l).length = 3 := by rw [HP.out]; rfl
        rw [hlk] at hcap ⊢
        have Mx : Hid (((decL x).getD 0 : Nat) < 18446744073709551616) := by
          show _ < _
          cases hq : decL x with
          | none => simp
          | some n => simpa using Lx n hq
        generalize (decL x).getD 0 = nx at *
        generalize (decL x).isSome = bbx at *
        have My : Hid (((decL y).getD 0 : Nat) < 18446744073709551616) := by
          show _ < _
          cases hq : decL y with
          | none => simp
          | some n => simpa using Ly n hq
        generalize (decL y).getD 0 = ny at *
        generalize (decL y).isSome = bby at *
        rw [hr, hn]
        clear hpar hpar0 hlen hcs hall hlk hbad hgood Px Lx Py Ly
        go_wp2_with fail
        go_loopw [11] (fun v wr => (v = .int .i64 0 ∧ wr = (w3.alloc (.cells #[.int .i64 1, .bool true, .bool tb, .bool ob, .bool ib] 24)).alloc (.cells #[.int .i64 0, .int .i64 0, .int .i64 0] 78)) ∨ (v = .int .i64 1 ∧ wr = (w3.alloc (.cells #[.int .i64 1, .bool true, .bool tb, .bool ob, .bool ib] 24)).alloc (.cells #[.int .i64 nx, .int .i64 0, .int .i64 0] 78) ∧ bbx = true ∧ nx < 8)) (fun v _ => 1 - (intOf v).toNat)
        case atStart => exact .inl ⟨rfl, rfl⟩
        case round =>
          rcases hrel with ⟨rfl, rfl⟩ | ⟨rfl, rfl, ex, fx⟩
          · cases bbx with
            | false =>
              go_wp2_with (first | (go_at_call 46; refine (Dx _).mono ?_; rintro e w' ⟨rfl, rfl⟩) | (refine wpList_store_row' rfl 38 _ _ rfl w.heap.size _ rfl rfl 38 _ (ZB _ _) size_ins rfl (by simp [Value.oneCell']) ?_))
              refine bodyPost_ret (ins_ret rfl _ _ w.heap.size _ _ (ZB _ _) rfl rfl) rfl ?_
              exact ⟨Bx.out (by first | rfl | trivial), (KB _ _).row (Nat.le_refl _) _⟩
            | true =>
              by_cases hg : nx < 8
              · have g1 : ¬ (8 : Int) ≤ nx := by omega
                go_wp2_with (first | (go_at_call 46; refine (Dx _).mono ?_; rintro e w' ⟨rfl, rfl⟩))
                go_roundw
                · exact .inr (⟨rfl, by first | rfl | trivial, by first | rfl | trivial, hg⟩)
                · decide
              · have g1 : (8 : Int) ≤ nx := by omega
                go_wp2_with (first | (go_at_call 46; refine (Dx _).mono ?_; rintro e w' ⟨rfl, rfl⟩) | (refine wpList_store_row' rfl 38 _ _ rfl w.heap.size _ rfl rfl 38 _ (ZB _ _) size_ins rfl (by simp [Value.oneCell']) ?_))
                refine bodyPost_ret (ins_ret rfl _ _ w.heap.size _ _ (ZB _ _) rfl rfl) rfl ?_
                exact ⟨Cx.out (by first | rfl | trivial) hg, (KB _ _).row (Nat.le_refl _) _⟩
          · cases bby with
            | false =>
              go_wp2_with (first | (go_at_call 46; refine (Dy _).mono ?_; rintro e w' ⟨rfl, rfl⟩) | (refine wpList_store_row' rfl 38 _ _ rfl w.heap.size _ rfl rfl 38 _ (ZB _ _) size_ins rfl (by simp [Value.oneCell']) ?_))
              refine bodyPost_ret (ins_ret rfl _ _ w.heap.size _ _ (ZB _ _) rfl rfl) rfl ?_
              exact ⟨By.out (by first | rfl | trivial), (KB _ _).row (Nat.le_refl _) _⟩
            | true =>
              go_wp2_with (first | (go_at_call 46; refine (Dy _).mono ?_; rintro e w' ⟨rfl, rfl⟩) | (refine wpList_store_row' rfl 38 _ _ rfl w.heap.size _ rfl rfl 38 _ (ZB _ _) size_ins rfl (by simp [Value.oneCell']) ?_))
              refine bodyPost_ret (ins_ret rfl _ _ w.heap.size _ _ (ZB _ _) rfl rfl) rfl ?_
              exact ⟨G.out ⟨trivial, ex, fx, by first | rfl | trivial | assumption⟩, (KB _ _).row (Nat.le_refl _) _⟩
      · obtain ⟨x, y, rfl⟩ := wlen_2 (by simpa [hr, hn, partsN] using hlen)
        have cx : w3.cell? ⟨g, 1, none⟩ = some (.string ⟨x.toArray⟩) := hcs 1 (by simp)
        have Dx : ∀ w, Calls Tryd.prog 46 #[.string ⟨x.toArray⟩] w fun e w' => e = .returned (.tuple #[.int .u64 (((decL x).getD 0 : Nat) : Int), .bool (decL x).isSome]) ∧ w' = w := fun w => rnumber_any x (hall _ (by simp)) w
        have Px : Hid ((decL x).isSome = true → decL x = some ((decL x).getD 0)) := fun h => by cases hq : decL x <;> simp_all
        have Lx : ∀ n, decL x = some n → n < 18446744073709551616 := fun n h => decL_lt h
        have cy : w3.cell? ⟨g, 2, none⟩ = some (.string ⟨y.toArray⟩) := hcs 2 (by simp)
        have Dy : ∀ w, Calls Tryd.prog 46 #[.string ⟨y.toArray⟩] w fun e w' => e = .returned (.tuple #[.int .u64 (((decL y).getD 0 : Nat) : Int), .bool (decL y).isSome]) ∧ w' = w := fun w => rnumber_any y (hall _ (by simp)) w
        have Py : Hid ((decL y).isSome = true → decL y = some ((decL y).getD 0)) := fun h => by cases hq : decL y <;> simp_all
        have Ly : ∀ n, decL y = some n → n < 18446744073709551616 := fun n h => decL_lt h
        have hpar : parseL l = match decAll [x, y] with | none => none | some N => if regOk k N then some (insOf k N) else none := by rw [hpar0, if_pos hlen]
        have Bx : Hid ((decL x).isSome = false → RPost l (.returned (.tuple #[.agg #[.int .i64 0, .int .i64 0, .int .i64 0, .int .i64 0, .int .u64 0], .bool false]))) := fun h => by
          refine hbad.out ?_
          rw [hpar, decAll_none [x, y] x (by simp) (by simpa using h)]
        have By : Hid ((decL y).isSome = false → RPost l (.returned (.tuple #[.agg #[.int .i64 0, .int .i64 0, .int .i64 0, .int .i64 0, .int .u64 0], .bool false]))) := fun h => by
          refine hbad.out ?_
          rw [hpar, decAll_none [x, y] y (by simp) (by simpa using h)]
        have Cx : Hid ((decL x).isSome = true → ¬ ((decL x).getD 0 : Nat) < 8 → RPost l (.returned (.tuple #[.agg #[.int .i64 0, .int .i64 0, .int .i64 0, .int .i64 0, .int .u64 0], .bool false]))) := fun h h' => by
          refine hbad.out ?_
          rw [hpar]
          cases hq : decAll [x, y] with
          | none => rfl
          | some N =>
            have := decAll_at [x, y] N hq 0 x rfl _ (Px.out h)
            show (if regOk k N then some (insOf k N) else none) = none
            rw [if_neg (regOk_no hr this (by decide) (by omega))]
        have Cy : Hid ((decL y).isSome = true → ¬ ((decL y).getD 0 : Nat) < 8 → RPost l (.returned (.tuple #[.agg #[.int .i64 0, .int .i64 0, .int .i64 0, .int .i64 0, .int .u64 0], .bool false]))) := fun h h' => by
          refine hbad.out ?_
          rw [hpar]
          cases hq : decAll [x, y] with
          | none => rfl
          | some N =>
            have := decAll_at [x, y] N hq 1 y rfl _ (Py.out h)
            show (if regOk k N then some (insOf k N) else none) = none
            rw [if_neg (regOk_no hr this (by decide) (by omega))]
        have G : Hid (True ∧ (decL x).isSome = true ∧ ((decL x).getD 0 : Nat) < 8 ∧ (decL y).isSome = true ∧ ((decL y).getD 0 : Nat) < 8 → RPost l (.returned (.tuple #[.agg #[.int .i64 k, .int .i64 (((decL x).getD 0 : Nat) : Int), .int .i64 (((decL y).getD 0 : Nat) : Int), .int .i64 0, .int .u64 0], .bool true]))) := fun hg => by
          obtain ⟨_, tx, ux, ty, uy⟩ := hg
          have hD := decAll_some [x, y] [(decL x).getD 0, (decL y).getD 0] (by simp [← Px.out tx, ← Py.out ty])
          refine hgood.out ⟨k, (((decL x).getD 0 : Nat) : Int), (((decL y).getD 0 : Nat) : Int), 0, 0⟩ ?_
          rw [hpar, hD]
          show (if regOk k [(((decL x).getD 0 : Nat) : Int), (((decL y).getD 0 : Nat) : Int)] then some (insOf k [(((decL x).getD 0 : Nat) : Int), (((decL y).getD 0 : Nat) : Int)]) else none) = _
          rw [if_pos (by simp [regOk, hr]; omega)]
          simp [insOf, hr, hn]
        have hlk : (pcs l).length = 3 := by rw [HP.out]; rfl
        rw [hlk] at hcap ⊢
        have Mx : Hid (((decL x).getD 0 : Nat) < 18446744073709551616) := by
          show _ < _
          cases hq : decL x with
          | none => simp
          | some n => simpa using Lx n hq
        generalize (decL x).getD 0 = nx at *
        generalize (decL x).isSome = bbx at *
        have My : Hid (((decL y).getD 0 : Nat) < 18446744073709551616) := by
          show _ < _
          cases hq : decL y with
          | none => simp
          | some n => simpa using Ly n hq
        generalize (decL y).getD 0 = ny at *
        generalize (decL y).isSome = bby at *
        rw [hr, hn]
        clear hpar hpar0 hlen hcs hall hlk hbad hgood Px Lx Py Ly
        go_wp2_with fail
        go_loopw [11] (fun v wr => (v = .int .i64 0 ∧ wr = (w3.alloc (.cells #[.int .i64 2, .bool false, .bool tb, .bool ob, .bool ib] 24)).alloc (.cells #[.int .i64 0, .int .i64 0, .int .i64 0] 78)) ∨ (v = .int .i64 1 ∧ wr = (w3.alloc (.cells #[.int .i64 2, .bool false, .bool tb, .bool ob, .bool ib] 24)).alloc (.cells #[.int .i64 nx, .int .i64 0, .int .i64 0] 78) ∧ bbx = true ∧ nx < 8) ∨ (v = .int .i64 2 ∧ wr = (w3.alloc (.cells #[.int .i64 2, .bool false, .bool tb, .bool ob, .bool ib] 24)).alloc (.cells #[.int .i64 nx, .int .i64 ny, .int .i64 0] 78) ∧ bbx = true ∧ nx < 8 ∧ bby = true ∧ ny < 8)) (fun v _ => 2 - (intOf v).toNat)
        case atStart => exact .inl ⟨rfl, rfl⟩
        case round =>
          rcases hrel with ⟨rfl, rfl⟩ | ⟨rfl, rfl, ex, fx⟩ | ⟨rfl, rfl, ex, fx, ey, fy⟩
          · cases bbx with
            | false =>
              go_wp2_with (first | (go_at_call 46; refine (Dx _).mono ?_; rintro e w' ⟨rfl, rfl⟩) | (refine wpList_store_row' rfl 38 _ _ rfl w.heap.size _ rfl rfl 38 _ (ZB _ _) size_ins rfl (by simp [Value.oneCell']) ?_))
              refine bodyPost_ret (ins_ret rfl _ _ w.heap.size _ _ (ZB _ _) rfl rfl) rfl ?_
              exact ⟨Bx.out (by first | rfl | trivial), (KB _ _).row (Nat.le_refl _) _⟩
            | true =>
              by_cases hg : nx < 8
              · have g1 : ¬ (8 : Int) ≤ nx := by omega
                go_wp2_with (first | (go_at_call 46; refine (Dx _).mono ?_; rintro e w' ⟨rfl, rfl⟩))
                go_roundw
                · exact .inr (.inl ⟨rfl, by first | rfl | trivial, by first | rfl | trivial, hg⟩)
                · decide
              · have g1 : (8 : Int) ≤ nx := by omega
                go_wp2_with (first | (go_at_call 46; refine (Dx _).mono ?_; rintro e w' ⟨rfl, rfl⟩) | (refine wpList_store_row' rfl 38 _ _ rfl w.heap.size _ rfl rfl 38 _ (ZB _ _) size_ins rfl (by simp [Value.oneCell']) ?_))
                refine bodyPost_ret (ins_ret rfl _ _ w.heap.size _ _ (ZB _ _) rfl rfl) rfl ?_
                exact ⟨Cx.out (by first | rfl | trivial) hg, (KB _ _).row (Nat.le_refl _) _⟩
          · cases bby with
            | false =>
              go_wp2_with (first | (go_at_call 46; refine (Dy _).mono ?_; rintro e w' ⟨rfl, rfl⟩) | (refine wpList_store_row' rfl 38 _ _ rfl w.heap.size _ rfl rfl 38 _ (ZB _ _) size_ins rfl (by simp [Value.oneCell']) ?_))
              refine bodyPost_ret (ins_ret rfl _ _ w.heap.size _ _ (ZB _ _) rfl rfl) rfl ?_
              exact ⟨By.out (by first | rfl | trivial), (KB _ _).row (Nat.le_refl _) _⟩
            | true =>
              by_cases hg : ny < 8
              · have g1 : ¬ (8 : Int) ≤ ny := by omega
                go_wp2_with (first | (go_at_call 46; refine (Dy _).mono ?_; rintro e w' ⟨rfl, rfl⟩))
                go_roundw
                · exact .inr (.inr (⟨rfl, by first | rfl | trivial, ex, fx, by first | rfl | trivial, hg⟩))
                · decide
              · have g1 : (8 : Int) ≤ ny := by omega
                go_wp2_with (first | (go_at_call 46; refine (Dy _).mono ?_; rintro e w' ⟨rfl, rfl⟩) | (refine wpList_store_row' rfl 38 _ _ rfl w.heap.size _ rfl rfl 38 _ (ZB _ _) size_ins rfl (by simp [Value.oneCell']) ?_))
                refine bodyPost_ret (ins_ret rfl _ _ w.heap.size _ _ (ZB _ _) rfl rfl) rfl ?_
                exact ⟨Cy.out (by first | rfl | trivial) hg, (KB _ _).row (Nat.le_refl _) _⟩
          · go_wp2_with (refine wpList_store_row' rfl 38 _ _ rfl w.heap.size _ rfl rfl 38 _ (ZB _ _) size_ins rfl (by simp [Value.oneCell']) ?_)
            refine bodyPost_ret (ins_ret rfl _ _ w.heap.size _ _ (ZB _ _) rfl rfl) rfl ?_
            exact ⟨G.out ⟨trivial, ex, fx, ey, fy⟩, (KB _ _).row (Nat.le_refl _) _⟩
      · obtain ⟨x, y, z, rfl⟩ := wlen_3 (by simpa [hr, hn, partsN] using hlen)
        have cx : w3.cell? ⟨g, 1, none⟩ = some (.string ⟨x.toArray⟩) := hcs 1 (by simp)
        have Dx : ∀ w, Calls Tryd.prog 46 #[.string ⟨x.toArray⟩] w fun e w' => e = .returned (.tuple #[.int .u64 (((decL x).getD 0 : Nat) : Int), .bool (decL x).isSome]) ∧ w' = w := fun w => rnumber_any x (hall _ (by simp)) w
        have Px : Hid ((decL x).isSome = true → decL x = some ((decL x).getD 0)) := fun h => by cases hq : decL x <;> simp_all
        have Lx : ∀ n, decL x = some n → n < 18446744073709551616 := fun n h => decL_lt h
        have cy : w3.cell? ⟨g, 2, none⟩ = some (.string ⟨y.toArray⟩) := hcs 2 (by simp)
        have Dy : ∀ w, Calls Tryd.prog 46 #[.string ⟨y.toArray⟩] w fun e w' => e = .returned (.tuple #[.int .u64 (((decL y).getD 0 : Nat) : Int), .bool (decL y).isSome]) ∧ w' = w := fun w => rnumber_any y (hall _ (by simp)) w
        have Py : Hid ((decL y).isSome = true → decL y = some ((decL y).getD 0)) := fun h => by cases hq : decL y <;> simp_all
        have Ly : ∀ n, decL y = some n → n < 18446744073709551616 := fun n h => decL_lt h
        have cz : w3.cell? ⟨g, 3, none⟩ = some (.string ⟨z.toArray⟩) := hcs 3 (by simp)
        have Dz : ∀ w, Calls Tryd.prog 46 #[.string ⟨z.toArray⟩] w fun e w' => e = .returned (.tuple #[.int .u64 (((decL z).getD 0 : Nat) : Int), .bool (decL z).isSome]) ∧ w' = w := fun w => rnumber_any z (hall _ (by simp)) w
        have Pz : Hid ((decL z).isSome = true → decL z = some ((decL z).getD 0)) := fun h => by cases hq : decL z <;> simp_all
        have Lz : ∀ n, decL z = some n → n < 18446744073709551616 := fun n h => decL_lt h
        have hpar : parseL l = match decAll [x, y, z] with | none => none | some N => if regOk k N then some (insOf k N) else none := by rw [hpar0, if_pos hlen]
        have Bx : Hid ((decL x).isSome = false → RPost l (.returned (.tuple #[.agg #[.int .i64 0, .int .i64 0, .int .i64 0, .int .i64 0, .int .u64 0], .bool false]))) := fun h => by
          refine hbad.out ?_
          rw [hpar, decAll_none [x, y, z] x (by simp) (by simpa using h)]
        have By : Hid ((decL y).isSome = false → RPost l (.returned (.tuple #[.agg #[.int .i64 0, .int .i64 0, .int .i64 0, .int .i64 0, .int .u64 0], .bool false]))) := fun h => by
          refine hbad.out ?_
          rw [hpar, decAll_none [x, y, z] y (by simp) (by simpa using h)]
        have Bz : Hid ((decL z).isSome = false → RPost l (.returned (.tuple #[.agg #[.int .i64 0, .int .i64 0, .int .i64 0, .int .i64 0, .int .u64 0], .bool false]))) := fun h => by
          refine hbad.out ?_
          rw [hpar, decAll_none [x, y, z] z (by simp) (by simpa using h)]
        have Cx : Hid ((decL x).isSome = true → ¬ ((decL x).getD 0 : Nat) < 8 → RPost l (.returned (.tuple #[.agg #[.int .i64 0, .int .i64 0, .int .i64 0, .int .i64 0, .int .u64 0], .bool false]))) := fun h h' => by
          refine hbad.out ?_
          rw [hpar]
          cases hq : decAll [x, y, z] with
          | none => rfl
          | some N =>
            have := decAll_at [x, y, z] N hq 0 x rfl _ (Px.out h)
            show (if regOk k N then some (insOf k N) else none) = none
            rw [if_neg (regOk_no hr this (by decide) (by omega))]
        have Cy : Hid ((decL y).isSome = true → ¬ ((decL y).getD 0 : Nat) < 8 → RPost l (.returned (.tuple #[.agg #[.int .i64 0, .int .i64 0, .int .i64 0, .int .i64 0, .int .u64 0], .bool false]))) := fun h h' => by
          refine hbad.out ?_
          rw [hpar]
          cases hq : decAll [x, y, z] with
          | none => rfl
          | some N =>
            have := decAll_at [x, y, z] N hq 1 y rfl _ (Py.out h)
            show (if regOk k N then some (insOf k N) else none) = none
            rw [if_neg (regOk_no hr this (by decide) (by omega))]
        have Cz : Hid ((decL z).isSome = true → ¬ ((decL z).getD 0 : Nat) < 8 → RPost l (.returned (.tuple #[.agg #[.int .i64 0, .int .i64 0, .int .i64 0, .int .i64 0, .int .u64 0], .bool false]))) := fun h h' => by
          refine hbad.out ?_
          rw [hpar]
          cases hq : decAll [x, y, z] with
          | none => rfl
          | some N =>
            have := decAll_at [x, y, z] N hq 2 z rfl _ (Pz.out h)
            show (if regOk k N then some (insOf k N) else none) = none
            rw [if_neg (regOk_no hr this (by decide) (by omega))]
        have G : Hid (True ∧ (decL x).isSome = true ∧ ((decL x).getD 0 : Nat) < 8 ∧ (decL y).isSome = true ∧ ((decL y).getD 0 : Nat) < 8 ∧ (decL z).isSome = true ∧ ((decL z).getD 0 : Nat) < 8 → RPost l (.returned (.tuple #[.agg #[.int .i64 k, .int .i64 (((decL x).getD 0 : Nat) : Int), .int .i64 (((decL y).getD 0 : Nat) : Int), .int .i64 (((decL z).getD 0 : Nat) : Int), .int .u64 0], .bool true]))) := fun hg => by
          obtain ⟨_, tx, ux, ty, uy, tz, uz⟩ := hg
          have hD := decAll_some [x, y, z] [(decL x).getD 0, (decL y).getD 0, (decL z).getD 0] (by simp [← Px.out tx, ← Py.out ty, ← Pz.out tz])
          refine hgood.out ⟨k, (((decL x).getD 0 : Nat) : Int), (((decL y).getD 0 : Nat) : Int), (((decL z).getD 0 : Nat) : Int), 0⟩ ?_
          rw [hpar, hD]
          show (if regOk k [(((decL x).getD 0 : Nat) : Int), (((decL y).getD 0 : Nat) : Int), (((decL z).getD 0 : Nat) : Int)] then some (insOf k [(((decL x).getD 0 : Nat) : Int), (((decL y).getD 0 : Nat) : Int), (((decL z).getD 0 : Nat) : Int)]) else none) = _
          rw [if_pos (by simp [regOk, hr]; omega)]
          simp [insOf, hr, hn]
        have hlk : (pcs l).length = 4 := by rw [HP.out]; rfl
        rw [hlk] at hcap ⊢
        have Mx : Hid (((decL x).getD 0 : Nat) < 18446744073709551616) := by
          show _ < _
          cases hq : decL x with
          | none => simp
          | some n => simpa using Lx n hq
        generalize (decL x).getD 0 = nx at *
        generalize (decL x).isSome = bbx at *
        have My : Hid (((decL y).getD 0 : Nat) < 18446744073709551616) := by
          show _ < _
          cases hq : decL y with
          | none => simp
          | some n => simpa using Ly n hq
        generalize (decL y).getD 0 = ny at *
        generalize (decL y).isSome = bby at *
        have Mz : Hid (((decL z).getD 0 : Nat) < 18446744073709551616) := by
          show _ < _
          cases hq : decL z with
          | none => simp
          | some n => simpa using Lz n hq
        generalize (decL z).getD 0 = nz at *
        generalize (decL z).isSome = bbz at *
        rw [hr, hn]
        clear hpar hpar0 hlen hcs hall hlk hbad hgood Px Lx Py Ly Pz Lz
        go_wp2_with fail
        go_loopw [11] (fun v wr => (v = .int .i64 0 ∧ wr = (w3.alloc (.cells #[.int .i64 3, .bool false, .bool tb, .bool ob, .bool ib] 24)).alloc (.cells #[.int .i64 0, .int .i64 0, .int .i64 0] 78)) ∨ (v = .int .i64 1 ∧ wr = (w3.alloc (.cells #[.int .i64 3, .bool false, .bool tb, .bool ob, .bool ib] 24)).alloc (.cells #[.int .i64 nx, .int .i64 0, .int .i64 0] 78) ∧ bbx = true ∧ nx < 8) ∨ (v = .int .i64 2 ∧ wr = (w3.alloc (.cells #[.int .i64 3, .bool false, .bool tb, .bool ob, .bool ib] 24)).alloc (.cells #[.int .i64 nx, .int .i64 ny, .int .i64 0] 78) ∧ bbx = true ∧ nx < 8 ∧ bby = true ∧ ny < 8) ∨ (v = .int .i64 3 ∧ wr = (w3.alloc (.cells #[.int .i64 3, .bool false, .bool tb, .bool ob, .bool ib] 24)).alloc (.cells #[.int .i64 nx, .int .i64 ny, .int .i64 nz] 78) ∧ bbx = true ∧ nx < 8 ∧ bby = true ∧ ny < 8 ∧ bbz = true ∧ nz < 8)) (fun v _ => 3 - (intOf v).toNat)
        case atStart => exact .inl ⟨rfl, rfl⟩
        case round =>
          rcases hrel with ⟨rfl, rfl⟩ | ⟨rfl, rfl, ex, fx⟩ | ⟨rfl, rfl, ex, fx, ey, fy⟩ | ⟨rfl, rfl, ex, fx, ey, fy, ez, fz⟩
          · cases bbx with
            | false =>
              go_wp2_with (first | (go_at_call 46; refine (Dx _).mono ?_; rintro e w' ⟨rfl, rfl⟩) | (refine wpList_store_row' rfl 38 _ _ rfl w.heap.size _ rfl rfl 38 _ (ZB _ _) size_ins rfl (by simp [Value.oneCell']) ?_))
              refine bodyPost_ret (ins_ret rfl _ _ w.heap.size _ _ (ZB _ _) rfl rfl) rfl ?_
              exact ⟨Bx.out (by first | rfl | trivial), (KB _ _).row (Nat.le_refl _) _⟩
            | true =>
              by_cases hg : nx < 8
              · have g1 : ¬ (8 : Int) ≤ nx := by omega
                go_wp2_with (first | (go_at_call 46; refine (Dx _).mono ?_; rintro e w' ⟨rfl, rfl⟩))
                go_roundw
                · exact .inr (.inl ⟨rfl, by first | rfl | trivial, by first | rfl | trivial, hg⟩)
                · decide
              · have g1 : (8 : Int) ≤ nx := by omega
                go_wp2_with (first | (go_at_call 46; refine (Dx _).mono ?_; rintro e w' ⟨rfl, rfl⟩) | (refine wpList_store_row' rfl 38 _ _ rfl w.heap.size _ rfl rfl 38 _ (ZB _ _) size_ins rfl (by simp [Value.oneCell']) ?_))
                refine bodyPost_ret (ins_ret rfl _ _ w.heap.size _ _ (ZB _ _) rfl rfl) rfl ?_
                exact ⟨Cx.out (by first | rfl | trivial) hg, (KB _ _).row (Nat.le_refl _) _⟩
          · cases bby with
            | false =>
              go_wp2_with (first | (go_at_call 46; refine (Dy _).mono ?_; rintro e w' ⟨rfl, rfl⟩) | (refine wpList_store_row' rfl 38 _ _ rfl w.heap.size _ rfl rfl 38 _ (ZB _ _) size_ins rfl (by simp [Value.oneCell']) ?_))
              refine bodyPost_ret (ins_ret rfl _ _ w.heap.size _ _ (ZB _ _) rfl rfl) rfl ?_
              exact ⟨By.out (by first | rfl | trivial), (KB _ _).row (Nat.le_refl _) _⟩
            | true =>
              by_cases hg : ny < 8
              · have g1 : ¬ (8 : Int) ≤ ny := by omega
                go_wp2_with (first | (go_at_call 46; refine (Dy _).mono ?_; rintro e w' ⟨rfl, rfl⟩))
                go_roundw
                · exact .inr (.inr (.inl ⟨rfl, by first | rfl | trivial, ex, fx, by first | rfl | trivial, hg⟩))
                · decide
              · have g1 : (8 : Int) ≤ ny := by omega
                go_wp2_with (first | (go_at_call 46; refine (Dy _).mono ?_; rintro e w' ⟨rfl, rfl⟩) | (refine wpList_store_row' rfl 38 _ _ rfl w.heap.size _ rfl rfl 38 _ (ZB _ _) size_ins rfl (by simp [Value.oneCell']) ?_))
                refine bodyPost_ret (ins_ret rfl _ _ w.heap.size _ _ (ZB _ _) rfl rfl) rfl ?_
                exact ⟨Cy.out (by first | rfl | trivial) hg, (KB _ _).row (Nat.le_refl _) _⟩
          · cases bbz with
            | false =>
              go_wp2_with (first | (go_at_call 46; refine (Dz _).mono ?_; rintro e w' ⟨rfl, rfl⟩) | (refine wpList_store_row' rfl 38 _ _ rfl w.heap.size _ rfl rfl 38 _ (ZB _ _) size_ins rfl (by simp [Value.oneCell']) ?_))
              refine bodyPost_ret (ins_ret rfl _ _ w.heap.size _ _ (ZB _ _) rfl rfl) rfl ?_
              exact ⟨Bz.out (by first | rfl | trivial), (KB _ _).row (Nat.le_refl _) _⟩
            | true =>
              by_cases hg : nz < 8
              · have g1 : ¬ (8 : Int) ≤ nz := by omega
                go_wp2_with (first | (go_at_call 46; refine (Dz _).mono ?_; rintro e w' ⟨rfl, rfl⟩))
                go_roundw
                · exact .inr (.inr (.inr (⟨rfl, by first | rfl | trivial, ex, fx, ey, fy, by first | rfl | trivial, hg⟩)))
                · decide
              · have g1 : (8 : Int) ≤ nz := by omega
                go_wp2_with (first | (go_at_call 46; refine (Dz _).mono ?_; rintro e w' ⟨rfl, rfl⟩) | (refine wpList_store_row' rfl 38 _ _ rfl w.heap.size _ rfl rfl 38 _ (ZB _ _) size_ins rfl (by simp [Value.oneCell']) ?_))
                refine bodyPost_ret (ins_ret rfl _ _ w.heap.size _ _ (ZB _ _) rfl rfl) rfl ?_
                exact ⟨Cz.out (by first | rfl | trivial) hg, (KB _ _).row (Nat.le_refl _) _⟩
          · go_wp2_with (refine wpList_store_row' rfl 38 _ _ rfl w.heap.size _ rfl rfl 38 _ (ZB _ _) size_ins rfl (by simp [Value.oneCell']) ?_)
            refine bodyPost_ret (ins_ret rfl _ _ w.heap.size _ _ (ZB _ _) rfl rfl) rfl ?_
            exact ⟨G.out ⟨trivial, ex, fx, ey, fy, ez, fz⟩, (KB _ _).row (Nat.le_refl _) _⟩
    · have hR := hbad.out (by rw [hpar0, if_neg hlen])
      have hpl : (pcs l).length = ws.length + 1 := by rw [HP.out]; rfl
      clear hpar0 hbad hgood HP hall hcs IY
      generalize (pcs l).length = pl at *
      rcases hrn with ⟨hr, hn⟩ | ⟨hr, hn⟩ | ⟨hr, hn⟩ | ⟨hr, hn⟩ | ⟨hr, hn⟩
      · have hm : partsN k = 0 := by simp [partsN, hr, hn]
        have hne : ((pl : Int) != 1) = true := by simp; omega
        rw [hr, hn]
        clear hm hlen hpl
        go_wp2_with (refine wpList_store_row' rfl 38 _ _ rfl w.heap.size _ rfl rfl 38 _ (ZA _) size_ins rfl (by simp [Value.oneCell']) ?_)
        refine bodyPost_ret (ins_ret rfl _ _ w.heap.size _ _ (ZA _) rfl rfl) rfl ?_
        exact ⟨hR, (KA _).row (Nat.le_refl _) _⟩
      · have hm : partsN k = 1 := by simp [partsN, hr, hn]
        have hne : ((pl : Int) != 2) = true := by simp; omega
        rw [hr, hn]
        clear hm hlen hpl
        go_wp2_with (refine wpList_store_row' rfl 38 _ _ rfl w.heap.size _ rfl rfl 38 _ (ZA _) size_ins rfl (by simp [Value.oneCell']) ?_)
        refine bodyPost_ret (ins_ret rfl _ _ w.heap.size _ _ (ZA _) rfl rfl) rfl ?_
        exact ⟨hR, (KA _).row (Nat.le_refl _) _⟩
      · have hm : partsN k = 2 := by simp [partsN, hr, hn]
        have hne : ((pl : Int) != 3) = true := by simp; omega
        rw [hr, hn]
        clear hm hlen hpl
        go_wp2_with (refine wpList_store_row' rfl 38 _ _ rfl w.heap.size _ rfl rfl 38 _ (ZA _) size_ins rfl (by simp [Value.oneCell']) ?_)
        refine bodyPost_ret (ins_ret rfl _ _ w.heap.size _ _ (ZA _) rfl rfl) rfl ?_
        exact ⟨hR, (KA _).row (Nat.le_refl _) _⟩
      · have hm : partsN k = 2 := by simp [partsN, hr, hn]
        have hne : ((pl : Int) != 3) = true := by simp; omega
        rw [hr, hn]
        clear hm hlen hpl
        go_wp2_with (refine wpList_store_row' rfl 38 _ _ rfl w.heap.size _ rfl rfl 38 _ (ZA _) size_ins rfl (by simp [Value.oneCell']) ?_)
        refine bodyPost_ret (ins_ret rfl _ _ w.heap.size _ _ (ZA _) rfl rfl) rfl ?_
        exact ⟨hR, (KA _).row (Nat.le_refl _) _⟩
      · have hm : partsN k = 3 := by simp [partsN, hr, hn]
        have hne : ((pl : Int) != 4) = true := by simp; omega
        rw [hr, hn]
        clear hm hlen hpl
        go_wp2_with (refine wpList_store_row' rfl 38 _ _ rfl w.heap.size _ rfl rfl 38 _ (ZA _) size_ins rfl (by simp [Value.oneCell']) ?_)
        refine bodyPost_ret (ins_ret rfl _ _ w.heap.size _ _ (ZA _) rfl rfl) rfl ?_
        exact ⟨hR, (KA _).row (Nat.le_refl _) _⟩
  · have hpar : parseL l = none := by
      unfold parseL
      rw [HP.out]
      dsimp only
      rw [namedN_no hno]
    have hR := hbad.out hpar
    have IN := rinfo_no 0 (by decide)
    clear hbad hgood hpar
    go_wp2_with fail
    refine (IN _).mono ?_
    rintro e w3 ⟨rfl, k3⟩
    obtain ⟨a3, -, hg4, kk3⟩ := prep w3 k3
    have ZA := fun o => ((MapKept.heap_alloc w3 o).2 _ (lt_of_block a3)).trans a3
    have KA := fun o => kk3.alloc o
    clear prep
    go_wp2_with (refine wpList_store_row' rfl 38 _ _ rfl w.heap.size _ rfl rfl 38 _ (ZA _) size_ins rfl (by simp [Value.oneCell']) ?_)
    refine bodyPost_ret (ins_ret rfl _ _ w.heap.size _ _ (ZA _) rfl rfl) rfl ?_
    exact ⟨hR, (KA _).row (Nat.le_refl _) _⟩
end Go.Proofs.YtepigjbnpkpanaaDoor
