/-
  No statement of the seat is proved here. (Several texts in one: OqB, OqK.)
-/
import Derived.Test.YthmiainhaebjiaaGreatDoorM25OqA
import Derived.Test.YthmiainhaebjiaaGreatDoorM28OrI
import Derived.Test.YthmiainhaebjiaaGreatDoorM31OpY
import Derived.Test.YthmiainhaebjiaaGreatDoorM23OpS

/- A walk of the document's Writing (layer 16). No statement of the seat is proved here. -/
namespace Go.Proofs.YthmiainhaebjiaaGreatDoor
open Go.RowKit Go.Shelf

/-- Which threads have locked. -/
def lkF (S : St) (j : Nat) : Bool := decide ((S.sd j).st = 3)
theorem lkF_next {S : St} {e : Ev} (h8 : S.t.length = 8) (he : errE S e = 0) (j : Nat) : lkF (nextS S e) j = if j = e.th.toNat then decide (e.kd = 5) else lkF S j := by
  obtain ⟨hf, ht⟩ := err_turn he
  obtain ⟨f0, f1, f2, f3⟩ := formed_in hf
  unfold lkF
  rw [next_sd (S := S) (e := e) h8 f0 f1]
  by_cases hj : j = e.th.toNat
  · rw [if_pos hj, if_pos hj]
    change decide (turnN (S.sd e.th.toNat).st e = 3) = _
    congr 1
    generalize (S.sd e.th.toNat).st = s at *
    apply propext
    constructor
    · intro h
      rcases turn_two (.inr h) with ⟨_, _, c⟩ | ⟨_, _, c⟩ | ⟨_, c, _⟩
      · omega
      · omega
      · exact c
    · intro h
      unfold turnN at ht ⊢
      by_cases q1 : s = 1
      · simp [q1, h] at ht
      · by_cases q2 : s = 2
        · simp [q2, h]
        · by_cases q3 : s = 3
          · simp [q3, h] at ht
          · simp [q1, q2, q3] at ht
  · rw [if_neg hj, if_neg hj]
theorem lkF_only {S : St} {e : Ev} (he : errE S e = 0) (h : lkF S e.th.toNat = true) : e.kd = 6 := by
  obtain ⟨hf, ht⟩ := err_turn he
  unfold lkF at h
  rw [decide_eq_true_eq] at h
  unfold turnN at ht
  rw [h] at ht
  apply Classical.byContradiction
  intro h6
  simp [h6] at ht
/-- Eight marks as they lie. -/
@[reducible] def bl8 (B : Nat → Bool) : Array Value := #[.bool (B 0), .bool (B 1), .bool (B 2), .bool (B 3), .bool (B 4), .bool (B 5), .bool (B 6), .bool (B 7)]
def LkAt (w : World) (b : Nat) (B : Nat → Bool) : Prop := w.heap[b]? = some (.cells (bl8 B) 149 (0, 0))
theorem LkAt.cell {w : World} {b : Nat} {B : Nat → Bool} (h : LkAt w b B) {n : Nat} (hn : n < 8) : w.cell? ⟨b, n, none⟩ = some (.bool (B n)) := by
  rw [cell_of_block h]
  rcases n with _ | _ | _ | _ | _ | _ | _ | _ | n
  all_goals first | rfl | omega
theorem LkAt.set {w : World} {b : Nat} {B C : Nat → Bool} (h : LkAt w b B) {n : Nat} (hn : n < 8) (x : Bool) (hC : ∀ j, C j = if j = n then x else B j) : LkAt (w.setCell ⟨b, n, none⟩ (.bool x)) b C := by
  have := block_set h n (.bool x)
  unfold LkAt
  rw [this]
  congr 2
  unfold bl8
  simp only [hC]
  rcases n with _ | _ | _ | _ | _ | _ | _ | _ | n
  all_goals first | rfl | omega
set_option maxRecDepth 100000 in
set_option maxHeartbeats 8000000 in
theorem rwriting_any (v : Value) (L : List Ev) (hL : L.length ≤ 1100000) (hz : (checkL L).2 = 0) (w : World) (ha : ElsAt Ev.cl 6 w v L) : Calls Tryz.prog 45 #[v] w fun ex w' => ∃ u, ex = .returned u ∧ NR w' w.heap.size u (wpos st0 L 0) ∧ Keeps (fun _ => False) w w' := by
  have HV : Hid (∀ X, Keeps (fun _ => False) w X → ElsAt Ev.cl 6 X v L) := fun X q => ha.keeps ev_ne q
  obtain ⟨aa, ac, rfl, hac⟩ := ha.shape
  have k0 := (Keeps.refl (fun _ => False) w).alloc (.cells #[.bool false, .bool false, .bool false, .bool false, .bool false, .bool false, .bool false, .bool false] 149)
  have b0 : LkAt (w.alloc (.cells #[.bool false, .bool false, .bool false, .bool false, .bool false, .bool false, .bool false, .bool false] 149)) w.heap.size (lkF st0) := (MapKept.heap_alloc w _).1
  have hs0 : (w.alloc (.cells #[.bool false, .bool false, .bool false, .bool false, .bool false, .bool false, .bool false, .bool false] 149)).heap.size = w.heap.size + 1 := by simp
  have O0 : NR (w.alloc (.cells #[.bool false, .bool false, .bool false, .bool false, .bool false, .bool false, .bool false, .bool false] 149)) (w.heap.size + 1) (.slice none 0 0) [] := OwnR.nilB nC 1 3 _ _ (by omega)
  have HZ : Hid (∃ S, wpos st0 L 0 = [] ++ wpos S (L.drop 0) 0 ∧ (chk S (L.drop 0) 0).2 = 0 ∧ S.t.length = 8 ∧ LkAt (w.alloc (.cells #[.bool false, .bool false, .bool false, .bool false, .bool false, .bool false, .bool false, .bool false] 149)) w.heap.size (lkF S)) := ⟨st0, rfl, hz, rfl, b0⟩
  clear ha hz b0 hs0
  go_enter Tryz.func45, Tryz.ntmps45
  go_wp2_with fail
  go_loopw [4, 5] (fun u4 u wr => ∃ (k : Nat) (acc : List Int), u = .int .i64 k ∧ k ≤ L.length ∧ acc.length ≤ k ∧ Hid (NR wr (w.heap.size + 1) u4 acc) ∧ Hid (∃ S, wpos st0 L 0 = acc ++ wpos S (L.drop k) k ∧ (chk S (L.drop k) k).2 = 0 ∧ S.t.length = 8 ∧ LkAt wr w.heap.size (lkF S)) ∧ Keeps (fun _ => False) w wr) (fun _ u _ => L.length - (intOf u).toNat)
  case atStart => exact ⟨0, [], rfl, Nat.zero_le _, Nat.le_refl _, O0, HZ, k0⟩
  case round =>
    clear O0 HZ k0
    obtain ⟨k, acc, rfl, hk, hal, hO, hS, kr⟩ := hrel
    by_cases hlt : k < L.length
    · have hki : (k : Int) < L.length := by omega
      have hk0 : (0 : Int) ≤ k := by omega
      obtain ⟨S, s1, s2, s3, s4⟩ := hS.out
      obtain ⟨g, off, rfl, hc⟩ := (HV.out wr kr).at k hlt
      have HX : Hid (∀ X, Keeps (fun _ => False) w X → X.cell? ⟨g, off + k * 6 + 1, none⟩ = some (.int .i64 (L[k]'hlt).kd)) := fun X q => by
        obtain ⟨g', off', e', hc'⟩ := (HV.out X q).at k hlt
        injection e' with e'
        injection e' with e1 e2
        subst e1 e2
        exact hc' 1 _ rfl
      rw [List.drop_eq_getElem_cons hlt] at s1 s2
      generalize L[k]'hlt = e at *
      have he : errE S e = 0 := by
        rw [chk] at s2
        apply Classical.byContradiction
        intro c
        rw [if_neg c] at s2
        exact c s2
      rw [chk, if_pos he] at s2
      rw [wpos] at s1
      have hnx := lkF_next s3 he
      have hol := lkF_only he
      have h8 : (nextS S e).t.length = 8 := by simp [nextS, s3]
      obtain ⟨hf, -⟩ := err_turn he
      obtain ⟨f0, f1, -, -⟩ := formed_in hf
      obtain ⟨th, kd, ad, wd, own, er⟩ := e
      dsimp only at hnx hol f0 f1
      obtain ⟨n, rfl⟩ : ∃ n : Nat, th = (n : Int) := ⟨th.toNat, by omega⟩
      have hn : n < 8 := by omega
      have hn8 : (n : Int) < 8 := by omega
      have hn0 : (0 : Int) ≤ n := by omega
      dsimp only at s1
      rw [Int.toNat_natCast] at hnx hol s1
      have x0 := hc 0 _ rfl
      have x1 := hc 1 _ rfl
      dsimp only at x0 x1
      simp only [Nat.add_zero] at x0
      have cl := s4.cell hn
      have fl : wr.frozen? ⟨w.heap.size, n, none⟩ = false := frozen_of_block s4 _
      have hbl : w.heap.size < wr.heap.size := lt_of_block s4
      generalize hB : lkF S n = B at *
      have hst : ((S.sd n).st = 3) ↔ B = true := by rw [← hB]; unfold lkF; rw [decide_eq_true_eq]
      clear hc he hf
      by_cases h5 : kd = 5
      · subst h5
        have hs1 : wpos st0 L 0 = acc ++ wpos (nextS S ⟨(n : Int), 5, ad, wd, own, er⟩) (L.drop (k + 1)) (k + 1) := by rw [if_neg (fun c => absurd c.1 (by decide))] at s1; exact s1
        have HL := s4.set hn true (C := lkF (nextS S ⟨(n : Int), 5, ad, wd, own, er⟩)) (fun j => by rw [hnx j]; rfl)
        have kE := (Keeps.refl (fun q => q = w.heap.size) wr).setCell (p := ⟨w.heap.size, n, none⟩) (.inr rfl) (.bool true)
        have HO : Hid (NR (wr.setCell ⟨w.heap.size, n, none⟩ (.bool true)) (w.heap.size + 1) u4 acc) := hO.out.keeps kE (fun q hq c => by have := (own_block hO.out.own hq).2; omega)
        have HS : Hid (∃ S, wpos st0 L 0 = acc ++ wpos S (L.drop (k + 1)) (k + 1) ∧ (chk S (L.drop (k + 1)) (k + 1)).2 = 0 ∧ S.t.length = 8 ∧ LkAt (wr.setCell ⟨w.heap.size, n, none⟩ (.bool true)) w.heap.size (lkF S)) := ⟨_, hs1, s2, h8, HL⟩
        have KR : Keeps (fun _ => False) w (wr.setCell ⟨w.heap.size, n, none⟩ (.bool true)) := kr.young kE (fun q c => by omega)
        have x1' := HX.out _ KR
        dsimp only at x1'
        obtain ⟨ub, uc, rfl⟩ := hO.out.form
        clear hS s1 s2 hs1 HL hO h8 hnx hol hst hB s4 kE
        go_wp2_with fail
        go_roundw
        · exact ⟨k + 1, acc, by simp, by omega, by omega, HO, HS, KR⟩
        · simp [intOf]; omega
      · have h5b : (kd == 5) = false := by rw [beq_eq_false_iff_ne]; exact h5
        by_cases h6 : kd = 6 ∧ B = true
        · obtain ⟨rfl, rfl⟩ := h6
          have hs1 : wpos st0 L 0 = (acc ++ [(k : Int)]) ++ wpos (nextS S ⟨(n : Int), 6, ad, wd, own, er⟩) (L.drop (k + 1)) (k + 1) := by rw [if_pos ⟨rfl, hst.2 rfl⟩] at s1; rw [s1]; simp
          have HL := s4.set hn false (C := lkF (nextS S ⟨(n : Int), 6, ad, wd, own, er⟩)) (fun j => by rw [hnx j]; rfl)
          have kE := (Keeps.refl (fun q => q = w.heap.size) wr).setCell (p := ⟨w.heap.size, n, none⟩) (.inr rfl) (.bool false)
          have hO1 : NR (wr.setCell ⟨w.heap.size, n, none⟩ (.bool false)) (w.heap.size + 1) u4 acc := hO.out.keeps kE (fun q hq c => by have := (own_block hO.out.own hq).2; omega)
          have KR : Keeps (fun _ => False) w (wr.setCell ⟨w.heap.size, n, none⟩ (.bool false)) := kr.young kE (fun q c => by omega)
          have hsz : (wr.setCell ⟨w.heap.size, n, none⟩ (.bool false)).heap.size = wr.heap.size := Nat.le_antisymm (by simp) kE.size
          obtain ⟨v', w3, r1, r2, r3⟩ := hO1.push (P := Tryz.prog) nC_len nC_one (by decide) Tryz.underlying34 info_nC rfl (by decide) (ty := 34) (k : Int) (cs := #[.int .i64 (k : Int)]) rfl (by omega)
          have hown : ∀ q, u4.ownBlock = some q → w.heap.size + 1 ≤ q := fun q hq => (own_block hO1.own hq).2
          have K3 : Keeps (fun q => w.heap.size + 1 ≤ q) (wr.setCell ⟨w.heap.size, n, none⟩ (.bool false)) w3 := r3.keeps.mono (fun q _ hq => hown q hq)
          have KR3 : Keeps (fun _ => False) w w3 := KR.young K3 (fun q hq => by omega)
          have HL3 : LkAt w3 w.heap.size (lkF (nextS S ⟨(n : Int), 6, ad, wd, own, er⟩)) := (K3.block _ (lt_of_block HL) (by omega)).trans HL
          have HS : Hid (∃ S, wpos st0 L 0 = (acc ++ [(k : Int)]) ++ wpos S (L.drop (k + 1)) (k + 1) ∧ (chk S (L.drop (k + 1)) (k + 1)).2 = 0 ∧ S.t.length = 8 ∧ LkAt w3 w.heap.size (lkF S)) := ⟨_, hs1, s2, h8, HL3⟩
          have HO : Hid (NR w3 (w.heap.size + 1) v' (acc ++ [(k : Int)])) := r2
          have hal2 : (acc ++ [(k : Int)]).length ≤ k + 1 := by simp; omega
          obtain ⟨ub, uc, rfl⟩ := hO1.form
          obtain ⟨⟨ya, yn, yc⟩, rfl, -⟩ := sl_of r2
          rw [hsz] at r1
          have HA : Hid (_ = _) := r1
          clear hS s1 s2 hs1 HL HL3 hO hO1 h8 hnx hol hst hB s4 kE KR K3 r1 r2 r3 hown
          go_wp2_with (at_builtin; refine wpList_append_run rfl _ _ 34 rfl rfl rfl HA.out ?_)
          go_roundw
          · exact ⟨k + 1, _, by simp, by omega, hal2, HO, HS, KR3⟩
          · simp [intOf]; omega
        · have hB2 : B = false := by
            apply Classical.byContradiction
            intro c
            have c1 : B = true := by cases B <;> simp_all
            exact h6 ⟨hol c1, c1⟩
          subst hB2
          have hs1 : wpos st0 L 0 = acc ++ wpos (nextS S ⟨(n : Int), kd, ad, wd, own, er⟩) (L.drop (k + 1)) (k + 1) := by rw [if_neg (fun c => absurd (hst.1 c.2) (by decide))] at s1; exact s1
          have HL : LkAt wr w.heap.size (lkF (nextS S ⟨(n : Int), kd, ad, wd, own, er⟩)) := by
            have : lkF (nextS S ⟨(n : Int), kd, ad, wd, own, er⟩) = lkF S := by
              funext j
              rw [hnx j]
              by_cases hj : j = n
              · rw [if_pos hj, hj, hB]; simp [h5]
              · rw [if_neg hj]
            rw [this]; exact s4
          have HS : Hid (∃ S, wpos st0 L 0 = acc ++ wpos S (L.drop (k + 1)) (k + 1) ∧ (chk S (L.drop (k + 1)) (k + 1)).2 = 0 ∧ S.t.length = 8 ∧ LkAt wr w.heap.size (lkF S)) := ⟨_, hs1, s2, h8, HL⟩
          obtain ⟨ub, uc, rfl⟩ := hO.out.form
          clear hS s1 s2 hs1 HL h8 hnx hol hst hB s4 h6
          by_cases h6 : kd = 6
          · subst h6
            go_wp2_with fail
            go_roundw
            · exact ⟨k + 1, acc, by simp, by omega, by omega, hO, HS, kr⟩
            · simp [intOf]; omega
          · have h6b : (kd == 6) = false := by rw [beq_eq_false_iff_ne]; exact h6
            go_wp2_with fail
            go_roundw
            · exact ⟨k + 1, acc, by simp, by omega, by omega, hO, HS, kr⟩
            · simp [intOf]; omega
    · obtain rfl : k = L.length := by omega
      obtain ⟨S, s1, -, -, -⟩ := hS.out
      have HF : Hid (NR wr w.heap.size u4 (wpos st0 L 0)) := by
        rw [List.drop_length, wpos, List.append_nil] at s1
        rw [s1]; exact hO.out.lowE (by omega)
      obtain ⟨ub, uc, rfl⟩ := hO.out.form
      clear hO hS s1
      go_wp2_with fail
      go_ret
      exact ⟨_, rfl, HF.out, kr⟩
end Go.Proofs.YthmiainhaebjiaaGreatDoor


/- The cells behind each number of commits, as the document lays them. No statement of the seat is proved here. -/
namespace Go.Proofs.YthmiainhaebjiaaGreatDoor
open Go.RowKit Go.Shelf

theorem begD_in (L : List Ev) (t : Int) : ∀ k, 0 ≤ begD L t k ∧ begD L t k ≤ k
  | 0 => by rw [begD]; omega
  | k + 1 => by
    have := begD_in L t k
    rw [begD]
    split <;> omega
theorem begD_le (L : List Ev) (t : Int) (k : Nat) : begD L t (k + 1) ≤ k := by
  have := begD_in L t k
  rw [begD]
  split <;> omega
/-- What a commit's thread writes between two places. -/
def wsU (L : List Ev) (th : Int) (a k : Nat) : List (Int × Int) := ((L.drop a).take (k - a)).filterMap (wrE th)
theorem wsU_self (L : List Ev) (th : Int) (a : Nat) : wsU L th a a = [] := by unfold wsU; simp
theorem wrt_wsU (F : List Int) {L : List Ev} (th : Int) {a k : Nat} (h : a ≤ k) (hk : k < L.length) : wrt F (wsU L th a (k + 1)) = if (L[k]).th = th ∧ (L[k]).kd = 3 then (wrt F (wsU L th a k)).set (L[k]).ad.toNat (L[k]).wd else wrt F (wsU L th a k) := by
  unfold wsU
  have h1 : (L.drop a).take (k + 1 - a) = (L.drop a).take (k - a) ++ [L[k]] := by
    rw [show k + 1 - a = (k - a) + 1 by omega, List.take_succ_eq_append_getElem (by rw [List.length_drop]; omega)]
    congr 2
    rw [List.getElem_drop]
    congr 1
    omega
  rw [h1, wrt_fm]
/-- A commit's place, and where its block begins. -/
structure ComAt (L : List Ev) (p : Pt) (a b : Nat) : Prop where
  la : p.la = (b : Int)
  fi : p.fi = (a : Int)
  ab : a ≤ b
  bl : b < L.length
  th : ∀ h : b < L.length, (L[b]).th = p.th
  be : begD L p.th (b + 1) = (a : Int)
  ws : p.ws = wsU L p.th a b
theorem com_at {L : List Ev} (hz : (checkL L).2 = 0) {W : List Pt} (hW : WrOf (partsL L) W) : ∀ p ∈ W, ∃ a b, ComAt L p a b := fun p hp => by
  have hla : 0 ≤ p.la := by
    have h1 := wpos_wr hz hW
    have h2 : p.la ∈ wpos st0 L 0 := by rw [h1]; exact List.mem_map_of_mem hp
    have := wpos_ge L st0 0 _ h2
    omega
  obtain ⟨h1, ⟨e, h2, -, h3⟩, h4⟩ := wr_begin hz hW p hp
  have h5 := begD_in L p.th (p.la.toNat + 1)
  have h6 := begD_le L p.th p.la.toNat
  rw [← h1] at h5 h6
  obtain ⟨hl, hL⟩ := List.getElem?_eq_some_iff.1 h2
  refine ⟨p.fi.toNat, p.la.toNat, by omega, by omega, by omega, hl, fun _ => by rw [hL]; exact h3, by rw [← h1]; omega, ?_⟩
  rw [h4]
  unfold wsU
  congr 2
  omega
/-- Rows of slices. -/
@[reducible] def sC (s : Sl) : List Value := [s.v]
theorem sC_len (x : Sl) : (sC x).length = 1 := rfl
theorem sC_one (x : Sl) : ∀ u ∈ sC x, u.oneCell' = true := by simp [Value.oneCell']
theorem info_sC : (Tryz.prog.info? 22).map (fun i => (i.zero, i.size, i.bytes)) = some (some (.slice none 0 0), 1, 24) := by kernel_rfl
/-- The states so far, and the cells that are written over. -/
structure StW (w : World) (base nb cap : Nat) (v : Value) (F : List Int) (W : List Pt) (X : List Int) (R : List Sl) : Prop where
  now : OwnR wC 1 26 w base (.slice (some ⟨nb, 0, none⟩) F.length cap) X
  row : OwnR sC 1 22 w base v R
  each : ∀ j (hj : j < R.length), OwnR wC 1 26 w base (R[j]).v (stN F W j)
  ap : ∀ j (hj : j < R.length) g, (R[j]).v.ownBlock = some g → v.ownBlock ≠ some g ∧ g ≠ nb
  nv : v.ownBlock ≠ some nb
theorem StW.keeps {w w' : World} {base nb cap : Nat} {v : Value} {F : List Int} {W : List Pt} {X : List Int} {R : List Sl} (h : StW w base nb cap v F W X R) (k : Keeps (fun _ => False) w w') : StW w' base nb cap v F W X R :=
  ⟨h.now.keeps k (fun _ _ f => f), h.row.keeps k (fun _ _ f => f), fun j hj => (h.each j hj).keeps k (fun _ _ f => f), h.ap, h.nv⟩
theorem StW.set {w : World} {base nb cap : Nat} {v : Value} {F : List Int} {W : List Pt} {X : List Int} {R : List Sl} (h : StW w base nb cap v F W X R) (k : Nat) (y : Int) (hk : k < X.length) : StW (w.setCell ⟨nb, k, none⟩ (.int .u64 y)) base nb cap v F W (X.set k y) R := by
  have ks := (Keeps.refl (fun q => q = nb) w).setCell (p := ⟨nb, k, none⟩) (.inr rfl) (.int .u64 y)
  refine ⟨?_, h.row.keeps ks (fun g hg e => h.nv (e ▸ hg)), fun j hj => (h.each j hj).keeps ks (fun g hg e => (h.ap j hj g hg).2 e), h.ap, h.nv⟩
  have := h.now.set wC_len k 0 y (.int .u64 y) hk (by decide) rfl
  simpa using this
theorem StW.grow {w : World} {base nb cap : Nat} {v : Value} {F : List Int} {W : List Pt} {R : List Sl} (h : StW w base nb cap v F W (stN F W R.length) R) (hR : R.length ≤ 1100000) (hF : F.length ≤ 65536) :
    ∃ s w1 v' w2, (Builtin.append_ #[22, 22] 22 #[.slice none 0 0, .slice (some ⟨nb, 0, none⟩) F.length cap]).run Tryz.prog w = .ok (Sl.v s) w1 ∧ (Builtin.append_ #[77, 77] 77 #[v, .slice (some ⟨w1.heap.size, 0, none⟩) 1 1]).run Tryz.prog (w1.alloc (.cells #[s.v] 22)) = .ok v' w2 ∧ StW w2 base nb cap v' F W (stN F W R.length) (R ++ [s]) ∧ Keeps (fun q => v.ownBlock = some q) w w2 ∧ (∀ g, v'.ownBlock = some g → v.ownBlock = some g ∨ w.heap.size ≤ g) := by
  have hlen := stN_len F W R.length
  obtain ⟨v1, w1, q1, q2, q3⟩ := (OwnR.nil wC 1 26 w).app wC_len wC_one (by decide) Tryz.underlying22 info_wC rfl (by decide) (ty := 22) _ (stN F W R.length) (h.now.els wC_len) (by rw [hlen]; simp; omega)
  simp only [List.nil_append] at q2
  have k1 := OwnR.kept q3 (Keeps.refl _ w) (OwnR.nil wC 1 26 w)
  obtain ⟨s, rfl, hs⟩ := sl_of q2
  have H1 := h.keeps k1
  obtain ⟨v', w2, r1, r2, r3⟩ := H1.row.push (P := Tryz.prog) sC_len sC_one (by decide) Tryz.underlying77 info_sC rfl (by decide) (ty := 77) s (cs := #[s.v]) rfl (by omega)
  have hnew : ∀ g, s.v.ownBlock = some g → w.heap.size ≤ g ∧ g < w1.heap.size := fun g hg => ⟨(own_block q2.own hg).2, (own_block q2.own hg).1⟩
  have hvw : ∀ g, v.ownBlock = some g → g < w.heap.size ∧ base ≤ g := fun g hg => own_block h.row.own hg
  have hbase := h.now.base
  have hnb : nb < w.heap.size := (own_block h.now.own rfl).1
  have hv' : ∀ g, v'.ownBlock = some g → v.ownBlock = some g ∨ w1.heap.size ≤ g := fun g hg => by
    rcases r3.own with e | e
    · exact .inl (e ▸ hg)
    · exact .inr (e g hg)
  refine ⟨s, w1, v', w2, q1, r1, ⟨?_, r2, fun j hj => ?_, fun j hj g hg => ?_, fun e => ?_⟩, ?_⟩
  · exact H1.now.keeps r3.keeps (fun g hg e => by
      simp only [Value.ownBlock, Option.some.injEq] at hg
      subst hg
      exact h.nv e)
  · by_cases hjl : j < R.length
    · rw [List.getElem_append_left hjl]
      exact (H1.each j hjl).keeps r3.keeps (fun g hg e => (H1.ap j hjl g hg).1 e)
    · obtain rfl : j = R.length := by simp at hj; omega
      have : (R ++ [s])[R.length] = s := by simp
      rw [this]
      refine (q2.lowE hbase).keeps r3.keeps (fun g hg e => ?_)
      have := hnew g hg
      have := hvw g e
      omega
  · by_cases hjl : j < R.length
    · rw [List.getElem_append_left hjl] at hg
      have h1 := H1.ap j hjl g hg
      refine ⟨fun e => ?_, h1.2⟩
      rcases hv' g e with c | c
      · exact h1.1 c
      · have := (own_block (H1.each j hjl).own hg).1
        omega
    · obtain rfl : j = R.length := by simp at hj; omega
      have : (R ++ [s])[R.length] = s := by simp
      rw [this] at hg
      have hg2 := hnew g hg
      refine ⟨fun e => ?_, by omega⟩
      rcases hv' g e with c | c
      · have := hvw g c; omega
      · omega
  · rcases hv' nb e with c | c
    · exact h.nv c
    · have := k1.size; omega
  · exact ⟨(k1.mono (fun _ _ f => f.elim)).trans r3.keeps, fun g hg => (hv' g hg).imp id (fun c => Nat.le_trans k1.size c)⟩
/-- The first of the states: nothing is committed. -/
theorem StW.first {w : World} {vF : Value} {F : List Int} (hF : F.length ≤ 65536) (h0 : 0 < F.length) (W : List Pt) (ha : WsAt w vF F) :
    ∃ nb cap w1 s w2, (Builtin.append_ #[22, 22] 22 #[.slice none 0 0, vF]).run Tryz.prog w = .ok (.slice (some ⟨nb, 0, none⟩) F.length cap) w1 ∧ (Builtin.append_ #[22, 22] 22 #[.slice none 0 0, .slice (some ⟨nb, 0, none⟩) F.length cap]).run Tryz.prog w1 = .ok (Sl.v s) w2 ∧ StW (w2.alloc (.cells #[s.v] 22)) w.heap.size nb cap (.slice (some ⟨w2.heap.size, 0, none⟩) 1 1) F W F [s] ∧ Keeps (fun _ => False) w (w2.alloc (.cells #[s.v] 22)) := by
  obtain ⟨v1, w1, q1, q2, q3⟩ := (OwnR.nil wC 1 26 w).app wC_len wC_one (by decide) Tryz.underlying22 info_wC rfl (by decide) (ty := 22) _ F ha (by simp; omega)
  simp only [List.nil_append] at q2
  have k1 := OwnR.kept q3 (Keeps.refl _ w) (OwnR.nil wC 1 26 w)
  obtain ⟨nb, cap, cur, rfl, hnb, -, -⟩ := q2.at h0
  obtain ⟨v2, w2, r1, r2, r3⟩ := (OwnR.nil wC 1 26 w1).app wC_len wC_one (by decide) Tryz.underlying22 info_wC rfl (by decide) (ty := 22) _ F (q2.els wC_len) (by simp; omega)
  simp only [List.nil_append] at r2
  have k2 := OwnR.kept r3 (Keeps.refl _ w1) (OwnR.nil wC 1 26 w1)
  obtain ⟨s, rfl, hs⟩ := sl_of r2
  have k3 := (Keeps.refl (fun _ => False) w2).alloc (.cells #[s.v] 22)
  have b3 := (MapKept.heap_alloc w2 (.cells #[s.v] 22)).1
  have hw : nb < w1.heap.size := (own_block q2.own rfl).1
  have hs1 := k1.size
  have hs2 := k2.size
  refine ⟨nb, cap, w1, s, w2, q1, r1, ⟨?_, ?_, fun j hj => ?_, fun j hj g hg => ?_, fun e => ?_⟩, (k1.trans k2).trans k3⟩
  · exact q2.keeps (k2.trans k3) (fun _ _ f => f)
  · exact OwnR.ofBlock (L := [s]) sC_len b3 rfl (by omega) (by simp [maxLen])
  · obtain rfl : j = 0 := by simp at hj; omega
    exact (r2.lowE hs1).keeps k3 (fun _ _ f => f)
  · obtain rfl : j = 0 := by simp at hj; omega
    have := own_block r2.own hg
    refine ⟨fun e => ?_, by omega⟩
    simp only [Value.ownBlock, Option.some.injEq] at e
    omega
  · simp only [Value.ownBlock, Option.some.injEq] at e
    omega
end Go.Proofs.YthmiainhaebjiaaGreatDoor
