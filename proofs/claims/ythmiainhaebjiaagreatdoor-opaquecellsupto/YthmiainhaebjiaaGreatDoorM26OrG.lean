/-
  No statement of the seat is proved here. (Several texts in one: OrG.)
-/
import Derived.Test.YthmiainhaebjiaaGreatDoorM15OrC
import Derived.Test.YthmiainhaebjiaaGreatDoorM20OrD
import Derived.Test.YthmiainhaebjiaaGreatDoorM25OqA

/- A walk of never (layer 16). No statement of the seat is proved here. -/
namespace Go.Proofs.YthmiainhaebjiaaGreatDoor
open Go.RowKit Go.Shelf

/-- A word that was read, and stood there at no time. -/
def nevB (L : List (Int × Int)) (F : List Int) (r : Int × Int) : Bool := !(decide (r ∈ L)) && decide (r.2 ≠ wdAt F r.1)
def nevL (L : List (Int × Int)) (F : List Int) (X : List Bx) : List (Int × Int) := (X.flatMap fun x => x.p.rs).filter (nevB L F)
theorem nev_len (L : List (Int × Int)) (F : List Int) : ∀ (X : List Bx), (∀ x ∈ X, x.p.rs.length ≤ 1050000) → (nevL L F X).length ≤ X.length * 1050000
  | [], _ => by simp [nevL]
  | x :: X, h => by
    have ih := nev_len L F X (fun y hy => h y (by simp [hy]))
    have hx := h x (by simp)
    have hf := List.length_filter_le (nevB L F) x.p.rs
    unfold nevL at ih ⊢
    rw [List.flatMap_cons, List.filter_append, List.length_append, List.length_cons]
    omega
set_option maxRecDepth 100000 in
set_option maxHeartbeats 8000000 in
theorem never_any (pb mb b2 : Nat) (vF vT vB vW : Value) (F : List Int) (T : List Ty) (X Y : List Bx) (f : Int → Option Sl) (hlen : ∀ a l, setN F (Y.map (·.p)) Y.length a = some l → l.length ≤ 1100000) (w : World) (h : PaAt w pb mb b2 vF vT vB vW F T X Y f) (u : PuA F T X Y) :
    Calls Tryz.prog 31 #[.pointer (some ⟨pb, 0, none⟩)] w fun ex w' => ∃ (v : Value) (L Ys : List (Int × Int)), ex = .returned v ∧ (∀ p : Int × Int, p ∈ L ↔ ∃ l, setN F (Y.map (·.p)) Y.length p.1 = some l ∧ ∃ n, (n, p.2) ∈ l) ∧ Ys.Perm (nevL L F X) ∧ Ys.Pairwise (fun p q => p.1 < q.1 ∨ p.1 = q.1 ∧ p.2 ≤ q.2) ∧ OwnR clC 2 28 w' w.heap.size v (ddP Ys Ys.length) ∧ Keeps (fun _ => False) w w' := by
  have SD := stood_any pb mb b2 f (setN F (Y.map (·.p)) Y.length) hlen w (by rw [cell_of_block h.blk]; rfl) h.st
  have HH : Hid (∀ Z, Keeps (fun _ => False) w Z → PaAt Z pb mb b2 vF vT vB vW F T X Y f) := fun Z k => h.keeps k
  have HU : Hid (PuA F T X Y) := u
  obtain ⟨xa, cx, rfl, hxc⟩ := h.bl.shape
  obtain ⟨fa, fc, rfl, hfc⟩ := h.ws.shape
  have hXl := u.xl
  have hFl := u.fl
  have hpw : pb < w.heap.size := lt_of_block h.blk
  clear h u hlen
  go_enter Tryz.func31, Tryz.ntmps31
  go_wp2_with fail
  refine SD.mono ?_
  rintro ex w1 ⟨b, L, rfl, hC, hLs, hbw, k1⟩
  clear SD
  have p2 : w1.cell? ⟨pb, 2, none⟩ = some (.slice xa X.length cx) := by rw [cell_of_block (HH.out w1 k1).blk]; rfl
  have HC : Hid (∀ Z, Keeps (fun _ => False) w1 Z → MapC Z b L) := fun Z k => hC.keeps k (fun f => f)
  have HLs : Hid (∀ p : Int × Int, p ∈ L ↔ ∃ l, setN F (Y.map (·.p)) Y.length p.1 = some l ∧ ∃ n, (n, p.2) ∈ l) := hLs
  have HH1 : Hid (∀ Z, Keeps (fun _ => False) w1 Z → PaAt Z pb mb b2 (.slice fa F.length fc) vT (.slice xa X.length cx) vW F T X Y f ∧ Keeps (fun _ => False) w Z) := fun Z k => ⟨HH.out Z (k1.trans k), k1.trans k⟩
  have O0 : Hid (OwnR clC 2 28 w1 w1.heap.size (.slice none 0 0) (nevL L F (X.take 0))) := OwnR.nil _ _ _ _
  have hw1 := k1.size
  clear hC hLs HH
  go_wp2_with fail
  clear p2
  go_loopw [4, 18] (fun u4 u18 wr => ∃ k : Nat, u18 = .int .i64 k ∧ k ≤ X.length ∧ Hid (OwnR clC 2 28 wr w1.heap.size u4 (nevL L F (X.take k))) ∧ Keeps (fun _ => False) w1 wr) (fun _ u18 _ => X.length - (intOf u18).toNat)
  case atStart => exact ⟨0, rfl, Nat.zero_le _, O0, Keeps.refl _ _⟩
  case round =>
    clear O0
    obtain ⟨k, rfl, hk, hO, kr⟩ := hrel
    generalize wr = Wo at *
    have hkw : IntKind.i64.wrap ((k : Int) + 1) = (k : Int) + 1 := by rw [IntKind.wrap_i64]; omega
    by_cases hlt : k < X.length
    · have hki : (k : Int) < X.length := by omega
      have hk0 : (0 : Int) ≤ k := by omega
      have hP := (HH1.out Wo kr).1
      obtain ⟨gx, ox, rfl, hcx⟩ := hP.bl.at k hlt
      have hxm := List.getElem_mem hlt
      have hrl := (HU.out.rl _ hxm).1
      have hinr := (HU.out.inr _ hxm).1
      have HRD : Hid (∀ Z, Keeps (fun _ => False) w1 Z → Calls Tryz.prog 54 #[.agg (X[k]'hlt).cb.toArray] Z fun ex w' => ∃ u, ex = .returned u ∧ CR w' Z.heap.size u (X[k]'hlt).p.rs ∧ Keeps (fun _ => False) Z w') := fun Z kz => seen_any (X[k]'hlt) (by omega) Z ((HH1.out Z kz).1.rd _ hxm)
      have hacc := nev_len L F (X.take k) (fun x hx => (HU.out.rl x (List.mem_of_mem_take hx)).1)
      have htl : (X.take k).length ≤ 1050000 := by rw [List.length_take]; omega
      have hsuc : nevL L F (X.take (k + 1)) = nevL L F (X.take k) ++ (X[k]'hlt).p.rs.filter (nevB L F) := by
        unfold nevL
        rw [List.take_succ_eq_append_getElem hlt, List.flatMap_append, List.filter_append]
        simp
      have HSC : Hid (_ = _) := hsuc
      have HAC : Hid ((nevL L F (X.take k)).length ≤ 1050000 * 1050000) := Nat.le_trans hacc (Nat.mul_le_mul_right _ htl)
      generalize X[k]'hlt = x at *
      obtain ⟨⟨pth, pkd, pfi, pla, pnu, pwr, per, prs, pws, psi, plk⟩, ⟨ra, rn, rc⟩, ⟨sa, sn, sc⟩⟩ := x
      change Hid (∀ Z, Keeps (fun _ => False) w1 Z → Calls Tryz.prog 54 #[.agg #[.int .i64 pth, .int .i64 pkd, .int .i64 pfi, .int .i64 pla, .int .u64 pnu, .bool pwr, .int .i64 per, .slice ra rn rc, .slice sa sn sc]] Z _) at HRD
      have y0 := hcx 0 _ rfl
      have y1 := hcx 1 _ rfl
      have y2 := hcx 2 _ rfl
      have y3 := hcx 3 _ rfl
      have y4 := hcx 4 _ rfl
      have y5 := hcx 5 _ rfl
      have y6 := hcx 6 _ rfl
      have y7 := hcx 7 _ rfl
      have y8 := hcx 8 _ rfl
      simp only [Nat.add_zero] at y0
      dsimp only at y0 y1 y2 y3 y4 y5 y6 y7 y8 hrl hinr HSC
      have kB := (Keeps.refl (fun _ => False) Wo).alloc (.cells #[.int .i64 pth, .int .i64 pkd, .int .i64 pfi, .int .i64 pla, .int .u64 pnu, .bool pwr, .int .i64 per, .slice ra rn rc, .slice sa sn sc] 73)
      have SN := HRD.out _ (kr.trans kB)
      obtain ⟨A, hA⟩ : ∃ A, A = Wo.alloc (.cells #[.int .i64 pth, .int .i64 pkd, .int .i64 pfi, .int .i64 pla, .int .u64 pnu, .bool pwr, .int .i64 per, .slice ra rn rc, .slice sa sn sc] 73) := ⟨_, rfl⟩
      rw [← hA] at kB SN
      have HAA : Hid (A = _) := hA
      have HO1 : Hid (OwnR clC 2 28 A w1.heap.size u4 (nevL L F (X.take k))) := hO.out.keeps kB (fun _ _ f => f)
      have KA := kr.trans kB
      clear hA hcx hP hxm hacc htl hsuc HRD hO kr kB
      go_wp2_with fail
      rw [← HAA.out]
      clear HAA y0 y1 y2 y3 y4 y5 y6 y7 y8
      refine SN.mono ?_
      rintro ex w2 ⟨uv, rfl, hU, k2⟩
      clear SN
      have K2 := KA.trans k2
      obtain ⟨ua, uc, rfl⟩ := hU.form
      have HU2 : Hid (∀ Z, Keeps (fun q => A.heap.size > q ∧ w1.heap.size ≤ q) w2 Z → ElsAt clC 2 Z (.slice ua prs.length uc) prs) := fun Z kz => (hU.keeps kz (fun g hg e => by have := (own_block hU.own hg).2; omega)).els cl_len
      have HO2 : Hid (OwnR clC 2 28 w2 w1.heap.size u4 (nevL L F (X.take k) ++ (prs.take 0).filter (nevB L F)) ∧ ∀ g, u4.ownBlock = some g → g < A.heap.size ∨ w2.heap.size ≤ g) := ⟨by simpa using HO1.out.keeps k2 (fun _ _ f => f), fun g hg => .inl (own_block HO1.out.own hg).1⟩
      clear hU HO1 KA
      go_wp2_with fail
      go_loopw [4, 25] (fun u4 u25 wr => ∃ j : Nat, u25 = .int .i64 j ∧ j ≤ prs.length ∧ Hid (OwnR clC 2 28 wr w1.heap.size u4 (nevL L F (X.take k) ++ (prs.take j).filter (nevB L F)) ∧ ∀ g, u4.ownBlock = some g → g < A.heap.size ∨ w2.heap.size ≤ g) ∧ Hid (Keeps (fun q => A.heap.size > q ∧ w1.heap.size ≤ q) w2 wr) ∧ Keeps (fun _ => False) w1 wr) (fun _ u25 _ => prs.length - (intOf u25).toNat)
      case atStart => exact ⟨0, rfl, Nat.zero_le _, HO2, Keeps.refl _ _, K2⟩
      case round =>
        clear HO2 K2
        obtain ⟨j, rfl, hj, hO, kq, kr⟩ := hrel
        have hjw : IntKind.i64.wrap ((j : Int) + 1) = (j : Int) + 1 := by rw [IntKind.wrap_i64]; omega
        by_cases hlj : j < prs.length
        · have hji : (j : Int) < prs.length := by omega
          have hj0 : (0 : Int) ≤ j := by omega
          obtain ⟨gu, ou, rfl, hcu⟩ := (HU2.out wr kq.out).at j hlj
          have hin := hinr _ (List.getElem_mem hlj)
          have htk : (prs.take (j + 1)).filter (nevB L F) = (prs.take j).filter (nevB L F) ++ [prs[j]'hlj].filter (nevB L F) := by rw [List.take_succ_eq_append_getElem hlj, List.filter_append]
          generalize prs[j]'hlj = rd at *
          obtain ⟨adI, wd⟩ := rd
          dsimp only at hin
          obtain ⟨ad, rfl⟩ : ∃ ad : Nat, adI = (ad : Int) := ⟨adI.toNat, by omega⟩
          have had : ad < F.length := by omega
          have hadi : (ad : Int) < F.length := by omega
          have had0 : (0 : Int) ≤ ad := by omega
          have z0 := hcu 0 _ rfl
          have z1 := hcu 1 _ rfl
          simp only [Nat.add_zero] at z0
          obtain ⟨gf, of_, rfl, hcf⟩ := (HH1.out wr kr).1.ws.at ad had
          have hy0 := hcf 0 _ rfl
          simp only [Nat.mul_one, Nat.add_zero] at hy0
          have hwd : wdAt F (ad : Int) = F[ad]'had := by unfold wdAt; rw [Int.toNat_natCast, List.getElem?_eq_getElem had]; rfl
          have hp0 : wr.cell? ⟨pb, 0, none⟩ = some (.slice (some ⟨gf, of_, none⟩) F.length fc) := by rw [cell_of_block (HH1.out wr kr).1.blk]; rfl
          have hnb : nevB L F ((ad : Int), wd) = (!(decide (((ad : Int), wd) ∈ L)) && decide (wd ≠ F[ad]'had)) := by unfold nevB; rw [hwd]
          generalize F[ad]'had = y at *
          have kC := (Keeps.refl (fun _ => False) wr).alloc (.cells #[.int .u64 (ad : Int), .int .u64 wd] 28)
          have bC := (MapKept.heap_alloc wr (.cells #[.int .u64 (ad : Int), .int .u64 wd] 28)).1
          have LK := (HC.out _ (kr.trans kC)).look ((ad : Int), wd)
          dsimp only [ceV] at LK
          have kE := (Keeps.refl (fun _ => False) (wr.alloc (.cells #[.int .u64 (ad : Int), .int .u64 wd] 28))).alloc (.cells #[] 118)
          have bE := (kE.block _ (lt_of_block bC) (fun f => f)).trans bC
          obtain ⟨cb, hcb⟩ : ∃ cb, cb = wr.heap.size := ⟨_, rfl⟩
          rw [← hcb] at bE
          obtain ⟨V, hV⟩ : ∃ V, V = (wr.alloc (.cells #[.int .u64 (ad : Int), .int .u64 wd] 28)).alloc (.cells #[] 118) := ⟨_, rfl⟩
          have kV := kC.trans kE
          rw [← hV] at kE bE kV
          have s0 : V.cell? ⟨cb, 0, none⟩ = some (.int .u64 (ad : Int)) := by rw [cell_of_block bE]; rfl
          have s1 : V.cell? ⟨cb, 1, none⟩ = some (.int .u64 wd) := by rw [cell_of_block bE]; rfl
          have s2 : V.cell? ⟨pb, 0, none⟩ = some (.slice (some ⟨gf, of_, none⟩) F.length fc) := kV.cellB (fun f => f) hp0
          have s3 : V.cell? ⟨gf, of_ + ad, none⟩ = some (.int .u64 y) := kV.cellB (fun f => f) hy0
          have hS0 : (V).cell? ⟨cb, 0, none⟩ = some (.int .u64 (ad : Int)) ∧ (V).cell? ⟨cb, 1, none⟩ = some (.int .u64 wd) ∧ (V).cell? ⟨pb, 0, none⟩ = some (.slice (some ⟨gf, of_, none⟩) F.length fc) ∧ (V).cell? ⟨gf, of_ + ad, none⟩ = some (.int .u64 y) := ⟨s0, s1, s2, s3⟩
          have hS1 : (V.drew).cell? ⟨cb, 0, none⟩ = some (.int .u64 (ad : Int)) ∧ (V.drew).cell? ⟨cb, 1, none⟩ = some (.int .u64 wd) ∧ (V.drew).cell? ⟨pb, 0, none⟩ = some (.slice (some ⟨gf, of_, none⟩) F.length fc) ∧ (V.drew).cell? ⟨gf, of_ + ad, none⟩ = some (.int .u64 y) := ⟨s0, s1, s2, s3⟩
          have HVV : Hid (V = _) := hV
          have HCB : Hid (cb = wr.heap.size) := hcb
          have kVd : Keeps (fun _ => False) wr V.drew := kV.drew
          have HOd := hO.out.1.keeps kVd (fun _ _ f => f)
          have KQ : Hid (Keeps (fun q => A.heap.size > q ∧ w1.heap.size ≤ q) w2 V.drew) := kq.out.trans (kVd.mono (fun _ _ f => f.elim))
          have KR := kr.trans kVd
          have HOW : Hid (∀ g, u4.ownBlock = some g → g < A.heap.size ∨ w2.heap.size ≤ g) := hO.out.2
          have hw2wr := kq.out.size
          have hVs := kVd.size
          clear hcu hcf hV hcb kC bC kE bE kV hO kq
          cases hz : decide (((ad : Int), wd) ∈ L) with
          | true =>
            rw [hz] at LK hnb
            rw [List.filter_cons, hnb, List.filter_nil] at htk
            simp only [Bool.not_true, Bool.false_and, Bool.false_eq_true, if_false, List.append_nil] at htk
            have HF : Hid (OwnR clC 2 28 V.drew w1.heap.size u4 (nevL L F (X.take k) ++ (prs.take (j + 1)).filter (nevB L F)) ∧ ∀ g, u4.ownBlock = some g → g < A.heap.size ∨ w2.heap.size ≤ g) := ⟨by rw [htk]; exact HOd, HOW.out⟩
            clear htk hnb HOd HOW hz kVd
            go_wp2_with fail
            rw [← HVV.out]
            try rw [← HCB.out]
            clear HVV HCB LK
            refine wp_held_end (S := fun W : World => W.cell? ⟨cb, 0, none⟩ = some (.int .u64 (ad : Int)) ∧ W.cell? ⟨cb, 1, none⟩ = some (.int .u64 wd) ∧ W.cell? ⟨pb, 0, none⟩ = some (.slice (some ⟨gf, of_, none⟩) F.length fc) ∧ W.cell? ⟨gf, of_ + ad, none⟩ = some (.int .u64 y)) 15 rfl hmxp ?_
            simp only [Array.replicate_succ, Array.replicate_zero, List.push_toArray, List.nil_append, List.cons_append]
            refine held_take (i := 0) (v := (.bool true)) 35 rfl rfl (by kernel_rfl) (by kernel_rfl) (by kernel_rfl) rfl (fun w' hw' => by obtain ⟨q0, q1, q2, q3⟩ := hw'; go_simp) hS1 ?_
            simp only [Act.put, List.setIfInBounds_toArray, List.set_cons_zero, List.set_cons_succ]
            refine held_take (i := 1) (v := (.bool false)) 36 rfl rfl (by kernel_rfl) (by kernel_rfl) (by kernel_rfl) rfl (fun w' hw' => by obtain ⟨q0, q1, q2, q3⟩ := hw'; go_simp) hS1 ?_
            simp only [Act.put, List.setIfInBounds_toArray, List.set_cons_zero, List.set_cons_succ]
            refine held_take (i := 2) (v := (.bool false)) 37 rfl rfl (by kernel_rfl) (by kernel_rfl) (by kernel_rfl) rfl (fun w' hw' => by obtain ⟨q0, q1, q2, q3⟩ := hw'; go_simp) hS1 ?_
            simp only [Act.put, List.setIfInBounds_toArray, List.set_cons_zero, List.set_cons_succ]
            refine held_skipO (i := 3) 38 rfl rfl (by kernel_rfl) (by kernel_rfl) (by kernel_rfl) rfl hS1 ?_
            simp only [Act.put, List.setIfInBounds_toArray, List.set_cons_zero, List.set_cons_succ]
            refine held_skipO (i := 4) 39 rfl rfl (by kernel_rfl) (by kernel_rfl) (by kernel_rfl) rfl hS1 ?_
            simp only [Act.put, List.setIfInBounds_toArray, List.set_cons_zero, List.set_cons_succ]
            refine held_skipO (i := 5) 40 rfl rfl (by kernel_rfl) (by kernel_rfl) (by kernel_rfl) rfl hS1 ?_
            simp only [Act.put, List.setIfInBounds_toArray, List.set_cons_zero, List.set_cons_succ]
            refine held_skipO (i := 6) 41 rfl rfl (by kernel_rfl) (by kernel_rfl) (by kernel_rfl) rfl hS1 ?_
            simp only [Act.put, List.setIfInBounds_toArray, List.set_cons_zero, List.set_cons_succ]
            refine held_skipO (i := 7) 42 rfl rfl (by kernel_rfl) (by kernel_rfl) (by kernel_rfl) rfl hS1 ?_
            simp only [Act.put, List.setIfInBounds_toArray, List.set_cons_zero, List.set_cons_succ]
            refine held_skipO (i := 8) 43 rfl rfl (by kernel_rfl) (by kernel_rfl) (by kernel_rfl) rfl hS1 ?_
            simp only [Act.put, List.setIfInBounds_toArray, List.set_cons_zero, List.set_cons_succ]
            refine held_skipO (i := 9) 44 rfl rfl (by kernel_rfl) (by kernel_rfl) (by kernel_rfl) rfl hS1 ?_
            simp only [Act.put, List.setIfInBounds_toArray, List.set_cons_zero, List.set_cons_succ]
            refine held_skipO (i := 10) 45 rfl rfl (by kernel_rfl) (by kernel_rfl) (by kernel_rfl) rfl hS1 ?_
            simp only [Act.put, List.setIfInBounds_toArray, List.set_cons_zero, List.set_cons_succ]
            refine held_skipO (i := 11) 46 rfl rfl (by kernel_rfl) (by kernel_rfl) (by kernel_rfl) rfl hS1 ?_
            simp only [Act.put, List.setIfInBounds_toArray, List.set_cons_zero, List.set_cons_succ]
            refine held_skipO (i := 12) 47 rfl rfl (by kernel_rfl) (by kernel_rfl) (by kernel_rfl) rfl hS1 ?_
            simp only [Act.put, List.setIfInBounds_toArray, List.set_cons_zero, List.set_cons_succ]
            refine held_skipO (i := 13) 48 rfl rfl (by kernel_rfl) (by kernel_rfl) (by kernel_rfl) rfl hS1 ?_
            simp only [Act.put, List.setIfInBounds_toArray, List.set_cons_zero, List.set_cons_succ]
            refine held_take (i := 14) (v := (.bool false)) 49 rfl rfl (by kernel_rfl) (by kernel_rfl) (by kernel_rfl) rfl (fun w' hw' => by obtain ⟨q0, q1, q2, q3⟩ := hw'; go_simp) hS1 ?_
            simp only [Act.put, List.setIfInBounds_toArray, List.set_cons_zero, List.set_cons_succ]
            refine held_end (by kernel_rfl) ?_ _
            go_wp2_with fail
            go_roundw
            · exact ⟨j + 1, by simp, by omega, HF, KQ, KR⟩
            · simp [intOf]; omega
          | false =>
            rw [hz] at LK hnb
            simp only [Bool.not_false, Bool.true_and] at hnb
            by_cases hxy : wd = y
            · have hxyn : (wd != y) = false := by simp [hxy]
              have hxyb : (wd == y) = true := by simp [hxy]
              rw [List.filter_cons, hnb, List.filter_nil] at htk
              simp only [hxy, ne_eq, not_true, decide_false, Bool.false_eq_true, if_false, List.append_nil] at htk
              have HF : Hid (OwnR clC 2 28 V.drew w1.heap.size u4 (nevL L F (X.take k) ++ (prs.take (j + 1)).filter (nevB L F)) ∧ ∀ g, u4.ownBlock = some g → g < A.heap.size ∨ w2.heap.size ≤ g) := ⟨by rw [htk]; exact HOd, HOW.out⟩
              clear htk hnb HOd HOW hz kVd hxy
              go_wp2_with fail
              rw [← HVV.out]
              try rw [← HCB.out]
              clear HVV HCB LK
              go_region_held3 (fun W : World => W.cell? ⟨cb, 0, none⟩ = some (.int .u64 (ad : Int)) ∧ W.cell? ⟨cb, 1, none⟩ = some (.int .u64 wd) ∧ W.cell? ⟨pb, 0, none⟩ = some (.slice (some ⟨gf, of_, none⟩) F.length fc) ∧ W.cell? ⟨gf, of_ + ad, none⟩ = some (.int .u64 y)) (first | assumption | (exact hS0) | go_keep) (fail)
              go_wp2_with fail
              go_roundw
              · exact ⟨j + 1, by simp, by omega, HF, KQ, KR⟩
              · simp [intOf]; omega
            · have hxyn : (wd != y) = true := by rw [bne_iff_ne]; exact hxy
              have hxyb : (wd == y) = false := by rw [beq_eq_false_iff_ne]; exact hxy
              rw [List.filter_cons, hnb, List.filter_nil] at htk
              simp only [hxy, ne_eq, not_false_iff, decide_true, if_true] at htk
              have hal : (nevL L F (X.take k) ++ (prs.take j).filter (nevB L F)).length ≤ 2000000000000 := by
                have h1 := HAC.out
                have h2 := List.length_filter_le (nevB L F) (prs.take j)
                rw [List.length_take] at h2
                rw [List.length_append]
                omega
              obtain ⟨v', w3, r1, r2, r3⟩ := HOd.push cl_len cl_one (by decide) Tryz.underlying24 info_cl rfl (by decide) (ty := 24) ((ad : Int), wd) (cs := #[.int .u64 (ad : Int), .int .u64 wd]) rfl (by omega)
              rw [List.append_assoc, ← htk] at r2
              have K3 : Keeps (fun _ => False) w1 w3 := KR.young r3.keeps (fun q e => (own_block HOd.own e).2)
              have KQ3 : Hid (Keeps (fun q => A.heap.size > q ∧ w1.heap.size ≤ q) w2 w3) := by
                refine ⟨r3.keeps.os.trans KQ.out.os, r3.keeps.tape.trans KQ.out.tape, r3.keeps.output.trans KQ.out.output, Nat.le_trans KQ.out.size r3.keeps.size, fun q hq hs => (r3.keeps.block q (Nat.lt_of_lt_of_le hq KQ.out.size) (fun c => ?_)).trans (KQ.out.block q hq hs)⟩
                rcases HOW.out q c with d | d
                · exact hs ⟨d, (own_block HOd.own c).2⟩
                · omega
              have HF : Hid (OwnR clC 2 28 w3 w1.heap.size v' (nevL L F (X.take k) ++ (prs.take (j + 1)).filter (nevB L F)) ∧ ∀ g, v'.ownBlock = some g → g < A.heap.size ∨ w2.heap.size ≤ g) := by
                refine ⟨r2, fun g hg => ?_⟩
                rcases r3.own with c | c
                · exact HOW.out g (c ▸ hg)
                · have := c g hg
                  have e9 : V.drew.heap.size = V.heap.size := rfl
                  omega
              obtain ⟨⟨va5, vn5, vc5⟩, rfl, -⟩ := sl_of r2
              dsimp only [Sl.v] at r1 HF
              have HA : Hid (_ = _) := r1
              clear htk hnb HOd HOW hz kVd hxy r1 r2 r3 KQ KR hal
              go_wp2_with fail
              rw [← HVV.out]
              try rw [← HCB.out]
              clear HVV HCB LK
              go_region_held3 (fun W : World => W.cell? ⟨cb, 0, none⟩ = some (.int .u64 (ad : Int)) ∧ W.cell? ⟨cb, 1, none⟩ = some (.int .u64 wd) ∧ W.cell? ⟨pb, 0, none⟩ = some (.slice (some ⟨gf, of_, none⟩) F.length fc) ∧ W.cell? ⟨gf, of_ + ad, none⟩ = some (.int .u64 y)) (first | assumption | (exact hS0) | go_keep) (fail)
              go_wp2_with (at_builtin; refine wpList_append_run rfl _ _ 24 rfl rfl rfl HA.out ?_)
              go_roundw
              · exact ⟨j + 1, by simp, by omega, HF, KQ3, K3⟩
              · simp [intOf]; omega
        · obtain rfl : j = prs.length := by omega
          have HF : Hid (OwnR clC 2 28 wr w1.heap.size u4 (nevL L F (X.take (k + 1)))) := by
            unfold Hid
            rw [HSC.out]
            have := hO.out.1
            rw [List.take_length] at this
            exact this
          clear hO kq
          go_wp2_with fail
          go_roundw
          · exact ⟨k + 1, by simp, by omega, HF, kr⟩
          · simp [intOf]; omega
    · obtain rfl : k = X.length := by omega
      have hOx := hO.out
      rw [List.take_length] at hOx
      have hnl := nev_len L F X (fun x hx => (HU.out.rl x hx).1)
      have hnl2 : (nevL L F X).length ≤ 2000000000000 := by
        have : X.length * 1050000 ≤ 1050000 * 1050000 := Nat.mul_le_mul_right _ (by omega)
        omega
      have ST := sortC_any (nevL L F X) hnl2 hOx
      obtain ⟨oa, oc, rfl⟩ := hOx.form
      have HOX : Hid (OwnR clC 2 28 Wo w1.heap.size (.slice oa (nevL L F X).length oc) (nevL L F X)) := hOx
      have HNL : Hid ((nevL L F X).length ≤ 2000000000000) := hnl2
      clear hO hOx hnl hnl2
      go_wp2_with fail
      refine ST.mono ?_
      rintro ex w3 ⟨rfl, Ys, hY, hperm, hsort, k3⟩
      clear ST
      have hYl : Ys.length ≤ 2000000000000 := by rw [hperm.length_eq]; exact HNL.out
      have CP := compact_any Ys hYl hY
      have HOW : Hid (∀ q, (Value.slice oa (nevL L F X).length oc).ownBlock = some q → w1.heap.size ≤ q) := fun q e => (own_block HOX.out.own e).2
      have HPS : Hid (Ys.Perm (nevL L F X) ∧ Ys.Pairwise (fun p q => p.1 < q.1 ∨ p.1 = q.1 ∧ p.2 ≤ q.2)) := ⟨hperm, hsort⟩
      have K3 : Keeps (fun _ => False) w1 w3 := kr.young k3 (fun q e => HOW.out q e)
      clear hperm hsort hY k3 HOX HNL hYl
      go_wp2_with fail
      refine CP.mono ?_
      rintro ex w4 ⟨uv, rfl, hU, k4⟩
      clear CP
      have K4 : Keeps (fun _ => False) w1 w4 := K3.young k4 (fun q e => HOW.out q e)
      obtain ⟨ua, uc, rfl⟩ := hU.form
      have HF : Hid (OwnR clC 2 28 w4 w.heap.size (.slice ua (ddP Ys Ys.length).length uc) (ddP Ys Ys.length)) := hU.lowE hw1
      have KF := (HH1.out w4 K4).2
      clear hU k4 K3
      go_wp2_with fail
      go_ret
      exact ⟨_, L, Ys, rfl, HLs.out, HPS.out.1, HPS.out.2, HF.out, KF⟩
end Go.Proofs.YthmiainhaebjiaaGreatDoor
