
/- Pure (layer 22): Insert of a new word. No statement of the seat is proved here. -/
import Derived.Test.YtifmpiiaebnbiaaSnF
namespace Go.Proofs.Ytifmpiiaebnbiaa
open Go.RowKit

theorem Rom.perm {s : Wd} {fr to : Int} {O O' : List (Int × Int)} {bk : Nat → List Int} (h : Rom s fr to O bk) (p : O.Perm O') : Rom s fr to O' bk :=
  ⟨h.len, h.fr0, h.to1, h.w1, h.nx0, h.nx1, fun q hq => h.oin q (p.mem_iff.2 hq), h.bin, (p.pairwise_iff (fun {_ _} q => q.symm)).1 h.oo, fun q hq => h.ob q (p.mem_iff.2 hq), h.bs, h.bb, h.ch⟩
section
variable {s : Wd} {N P B : List Sn} {m : Nat} {x : Int}
theorem Ss.seen {s1 : Wd} {n : Nat} (h : Ss s N m) (v : Seen s s1 n) : Ss s1 N m := by
  obtain ⟨bk, hr⟩ := h.rm
  refine ⟨v.c.trans h.c, by unfold Wd.Ok; rw [v.w]; exact h.ok, by rw [v.w]; exact h.sl, ⟨bk, hr.same v.w⟩, ?_⟩
  show oat s1.W 0 ≤ _
  rw [v.w]
  exact h.nb
/-- A free piece's first cell lies in no node, and is no header's. -/
theorem free_ne {O : List (Int × Int)} {bk : Nat → List Int} (hr : Rom s 40 2000 O bk) {n : Nat} (h1 : 1 ≤ n) (h2 : n ≤ 16) {b : Int} (hb : b ∈ bk n) : 40 ≤ b.toNat ∧ ∀ q : Sn, ((q.a : Int), ((2 + q.h : Nat) : Int)) ∈ O → ¬ inN q b.toNat := by
  have q := hr.bin n h1 h2 b hb
  refine ⟨by omega, fun y hy hin => ?_⟩
  have d := hr.ob _ hy n h1 h2 b hb
  unfold PD at d
  unfold inN at hin
  dsimp only at d
  omega
theorem ins_new (h : Ss s (P ++ B) m) (hm : m ≤ 190) (hP : ∀ y ∈ P, y.k < x) (hB : ∀ y ∈ B, x < y.k) (hx : isW x) (hfew : (P ++ B).length ≤ 900) (level : Int) :
    ∃ nd s', nd.k = x ∧ s.ins 0 20 x level = ((true, 0), s') ∧ Aft s s' 2200 s'.W ∧ Ss s' (P ++ nd :: B) (m + 1) := by
  obtain ⟨la, s1, e1, hl8, v1, hla⟩ := search_sl (p := pLt x) h.c h.sl (fun y hy => by have := hP y hy; unfold pLt; simp; omega) (fun y hy => by have := hB y hy; unfold pLt; simp; omega)
  have h1 := h.seen v1
  obtain ⟨n, hn, hn1, hn8⟩ := hgt_nat level
  obtain ⟨a, s2, e2, v2, ok2, l2, ha1, ha2, hc2, hnx2, hpd, bk, hr2⟩ := h1.take hm (2 + n) (by omega) (by omega)
  have hw2 : uw (2 + hgt level) = ((2 + n : Nat) : Int) := by rw [hn, uw_of (by omega) (by omega)]; omega
  have c1 : s1.c = 0 := h1.c
  have c2 : s2.c = 0 := v2.c.trans c1
  obtain ⟨s3, e3, v3⟩ := put_in (s := s2) (a := (a : Int)) (x := x) c2 (by omega) (by omega)
  have l3 : s3.W.length = 2000 := by rw [v3.w, List.length_set]; exact l2
  have hw3 : uw ((a : Int) + 1) = ((a + 1 : Nat) : Int) := by rw [uw_of (by omega) (by omega)]; omega
  obtain ⟨s4, e4, v4⟩ := put_in (s := s3) (a := ((a + 1 : Nat) : Int)) (x := (n : Int)) (v3.c.trans c2) (by omega) (by omega)
  have l4 : s4.W.length = 2000 := by rw [v4.w, List.length_set]; exact l3
  have ok4 : s4.Ok := ok_set (ok_set ok2 hx v3.w) ⟨by omega, by omega⟩ v4.w
  have ec4 : ∀ c : Nat, oat s4.W c = if c = a + 1 then (n : Int) else if c = a then x else oat s2.W c := fun c => by
    rw [v4.w, oat_set, v3.w, oat_set, List.length_set, show (((a + 1 : Nat) : Int)).toNat = a + 1 by omega, show ((a : Int)).toNat = a by omega]
    by_cases x1 : c = a + 1
    · rw [if_pos x1, if_pos ⟨x1.symm, by omega⟩]
    · rw [if_neg x1, if_neg (fun e => x1 e.1.symm)]
      by_cases x2 : c = a
      · rw [if_pos x2, if_pos ⟨x2.symm, by omega⟩]
      · rw [if_neg x2, if_neg (fun e => x2 e.1.symm)]
  have hlt : (la.take n).length = n := by rw [List.length_take]; omega
  have hlk : ∀ j, j < n → lk (la.take n) j = ⟨((cel j 20 P : Nat) : Int), nxt j B, nxk j B⟩ := fun j hj => by rw [lk_take hj, hla j (by omega)]
  have hBN : ∀ q ∈ B, q ∈ P ++ B := fun q hq => by simp [hq]
  obtain ⟨s5, g1, g2, ok5, l5, g5, g6, g7⟩ := hang_ok a (by omega) (la.take n) (a + 2) s4 ((v4.c.trans v3.c).trans c2) ok4 l4 (by omega) (fun j hj => by
    rw [hlt] at hj
    rw [hlk j hj]
    exact ⟨_, rfl, (front_at h (by omega)).1, nxt_bound h hBN j⟩)
  rw [hlt] at g2 g5 g6 g7
  have hnd : ∀ q ∈ P ++ B, ∀ c : Nat, ¬ (inN ⟨a, x, n⟩ c ∧ inN q c) := fun q hq c ⟨i1, i2⟩ => by
    have d := hpd _ (List.mem_map.2 ⟨q, hq, rfl⟩)
    unfold PD at d
    unfold inN at i1 i2
    dsimp only at d i1
    omega
  have hfr : ∀ j, j < n → ¬ inN ⟨a, x, n⟩ (cel j 20 P) := fun j hj hin => by
    rcases (front_at h (i := j) (by omega)).2 with q | ⟨q, hq, i2⟩
    · unfold inN at hin; dsimp only at hin; omega
    · exact hnd q (by simp [hq]) _ ⟨hin, i2⟩
  have hw4 : uw ((a : Int) + 2) = ((a + 2 : Nat) : Int) := by rw [uw_of (by omega) (by omega)]; omega
  have hown : ∀ i, i < n → oat s5.W (a + 2 + i) = nxt i B := fun i hi => by
    have q := g6 i hi (fun j hj e => by
      rw [hlk j hj] at e
      have e' : cel j 20 P = a + 2 + i := by have : ((cel j 20 P : Nat) : Int) = ((a + 2 + i : Nat) : Int) := e; omega
      exact hfr j hj (by rw [e']; unfold inN; dsimp only; omega))
    rw [hlk i hi] at q
    exact q
  have hset : ∀ i, i < n → oat s5.W (cel i 20 P) = (a : Int) + 1 := fun i hi => by
    have q := g7 i hi (fun j hj hij e => by
      rw [hlk j hj, hlk i hi] at e
      have e' : cel j 20 P = cel i 20 P := by have : ((cel j 20 P : Nat) : Int) = ((cel i 20 P : Nat) : Int) := e; omega
      exact front_ne h (by omega) (by omega) hij e') (fun j hj e => by
      rw [hlk i hi] at e
      have e' : cel i 20 P = a + 2 + j := by have : ((cel i 20 P : Nat) : Int) = ((a + 2 + j : Nat) : Int) := e; omega
      exact hfr i hi (by rw [e']; unfold inN; dsimp only; omega))
    rw [hlk i hi] at q
    exact q
  have hoth : ∀ c : Nat, (∀ j, j < n → c ≠ a + 2 + j) → (∀ j, j < n → c ≠ cel j 20 P) → oat s5.W c = oat s4.W c := fun c i1 i2 => g5 c i1 (fun j hj e => by
    rw [hlk j hj] at e
    have : ((cel j 20 P : Nat) : Int) = (c : Int) := e
    exact i2 j hj (by omega))
  have hun : ∀ c : Nat, ¬ inN ⟨a, x, n⟩ c → (∀ j, j < n → c ≠ cel j 20 P) → oat s5.W c = oat s2.W c := fun c i1 i2 => by
    rw [hoth c (fun j hj e => i1 (by unfold inN; dsimp only; omega)) i2, ec4, if_neg (fun e => i1 (by unfold inN; dsimp only; omega)), if_neg (fun e => i1 (by unfold inN; dsimp only; omega))]
  have h5a : oat s5.W a = x := by
    rw [hoth a (fun j hj => by omega) (fun j hj e => hfr j hj (by rw [← e]; unfold inN; dsimp only; omega)), ec4, if_neg (by omega), if_pos rfl]
  have h5b : oat s5.W (a + 1) = (n : Int) := by
    rw [hoth (a + 1) (fun j hj => by omega) (fun j hj e => hfr j hj (by rw [← e]; unfold inN; dsimp only; omega)), ec4, if_pos rfl]
  have hsl2 : SlF s2.W hdr (P ++ B) := h1.slf.same (by rw [l2, h1.sl.len]) (fun q hq => by have := h.node hq; omega) hc2
  have hsl := ins_sl (W := s2.W) (W' := s5.W) (by rw [l5, l2]) (nd := ⟨a, x, n⟩) (B := B) ⟨h5a, h5b, hn1, hn8, by dsimp only; omega⟩ hown (P := P) (f := hdr) hsl2 h.apt (fun i hi hin => by unfold inN hdr at hin; dsimp only at hin; omega) hnd (fun i hi => by
    have e := hset i hi
    rw [cel_eq] at e
    exact e) (fun c i1 i2 => hun c i1 (fun j hj => by
    have e := i2 j hj
    rw [cel_eq]
    exact e))
  have hwr : s2.write (a : Int) x (hgt level) = (0, s4) := by
    unfold Wd.write
    rw [e3]
    dsimp only
    rw [if_neg (by simp), hw3, hn]
    exact e4
  have hh : hangL (a : Int) (la.take (hgt level).toNat) (uw ((a : Int) + 2)) s4 = (0, s5) := by
    rw [hn, hw4, show ((n : Int)).toNat = n by omega]
    exact g1
  refine ⟨⟨a, x, n⟩, s5, rfl, ?_, ((((v1.aft.trans v2).trans v3).trans v4).trans g2).more (by omega), ⟨((((g2.c.trans v4.c).trans v3.c).trans v2.c).trans v1.c).trans h.c, ok5, ⟨fun i hi => hsl.lnk i hi, hsl.ns, ?_, l5, by simp at hfew ⊢; omega⟩, ⟨bk, ?_⟩, ?_⟩⟩
  · unfold Wd.ins
    rw [e1]
    dsimp only
    rw [if_neg (by rw [haveB_no hla hB]; simp), hw2, e2]
    dsimp only
    rw [if_neg (by simp), hwr]
    dsimp only
    rw [if_neg (by simp), hh]
    rfl
  · have hu := List.pairwise_append.1 h.sl.up
    refine List.pairwise_append.2 ⟨hu.1, List.pairwise_cons.2 ⟨fun y hy => hB y hy, hu.2.1⟩, fun y hy z hz => ?_⟩
    rcases List.mem_cons.1 hz with rfl | hz
    · exact hP y hy
    · exact hu.2.2 y hy z hz
  · have hk : Rom s5 40 2000 (pcs (P ++ B) ++ [((a : Int), ((2 + n : Nat) : Int))]) bk := hr2.keep (by rw [l5, l2]) (fun c hc => hun c (fun hin => by unfold inN at hin; dsimp only at hin; omega) (fun j hj e => by
      rcases (front_at h (i := j) (by omega)).2 with q | ⟨q, hq, i2⟩
      · omega
      · have := h.node (q := q) (by simp [hq])
        unfold inN at i2
        omega)) (fun k k1 k2 b hb => by
      obtain ⟨f1, f2⟩ := free_ne hr2 k1 k2 hb
      refine hun _ (f2 ⟨a, x, n⟩ (by simp)) (fun j hj e => ?_)
      rcases (front_at h (i := j) (by omega)).2 with q | ⟨q, hq, i2⟩
      · omega
      · refine f2 q ?_ (by rw [e]; exact i2)
        refine List.mem_append_left _ (List.mem_map.2 ⟨q, by simp [hq], rfl⟩))
    refine hk.perm ?_
    unfold pcs
    rw [List.map_append, List.map_append, List.map_cons, List.append_assoc]
    exact List.Perm.append_left _ (List.perm_append_comm.trans (List.Perm.refl _))
  · have e : oat s5.W 0 = oat s2.W 0 := hun 0 (fun hin => by unfold inN at hin; dsimp only at hin; omega) (fun j hj e => by
      rcases (front_at h (i := j) (by omega)).2 with q | ⟨q, hq, i2⟩
      · omega
      · have := h.node (q := q) (by simp [hq])
        unfold inN at i2
        omega)
    show oat s5.W 0 ≤ _
    rw [e]
    exact hnx2
end
end Go.Proofs.Ytifmpiiaebnbiaa
