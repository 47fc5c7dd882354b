
/- Pure (layer 22): Remove of a word that is there. No statement of the seat is proved here. -/
import Derived.Test.YtifmpiiaebnbiaaSnH
namespace Go.Proofs.Ytifmpiiaebnbiaa
open Go.RowKit

section
variable {s : Wd} {N P B : List Sn} {m : Nat} {x : Int} {nd : Sn}
theorem rem_yes (h : Ss s (P ++ nd :: B) m) (hP : ∀ y ∈ P, y.k < x) (hq : nd.k = x) :
    ∃ s', s.rem 0 20 x = ((true, 0), s') ∧ Aft s s' 2200 s'.W ∧ Ss s' (P ++ B) m := by
  obtain ⟨la, s1, e1, hl8, v1, hla⟩ := search_lt h hP (h.tail_up hq)
  have h1 := h.seen v1
  have hn := h.node (q := nd) (by simp)
  have hat := (Ns.at_ h.sl.ns)
  have hlen := h.sl.len
  have c1 : s1.c = 0 := h1.c
  have hnd : (lk la 0).nd = nd.a := by
    rw [hla 0 (by omega), nxt_yes (by omega)]
    show uw ((nd.a : Int) + 1 - 1) = nd.a
    rw [show (nd.a : Int) + 1 - 1 = nd.a by omega]
    exact uw_of (by omega) (by omega)
  have hw1 : uw ((nd.a : Int) + 1) = ((nd.a + 1 : Nat) : Int) := by rw [uw_of (by omega) (by omega)]; omega
  obtain ⟨s2, e2, v2⟩ := get_in (s := s1) (a := ((nd.a + 1 : Nat) : Int)) c1 (by omega) (by rw [v1.w]; omega)
  rw [v1.w, show (((nd.a + 1 : Nat) : Int)).toNat = nd.a + 1 by omega, hat.1.2.1] at e2
  have h2 := h1.seen v2
  have hw2 : s2.W = s.W := v2.w.trans v1.w
  have hlv : s1.levelOf (lk la 0).nd = (((nd.h : Int), 0), s2) := by
    unfold Wd.levelOf
    rw [hnd, hw1, e2]
    dsimp only
    rw [if_neg (by simp), if_neg (by omega)]
  have hlt : (la.take nd.h).length = nd.h := by rw [List.length_take]; omega
  have hlk : ∀ j, j < nd.h → lk (la.take nd.h) j = ⟨((cel j 20 P : Nat) : Int), nxt j (nd :: B), nxk j (nd :: B)⟩ := fun j hj => by rw [lk_take hj, hla j (by omega)]
  have hap := h.apt
  have hdisj : ∀ q ∈ P, ∀ c : Nat, ¬ (inN q c ∧ inN nd c) := fun q hq' c hc => (List.pairwise_append.1 hap.pc).2.2 q hq' nd (by simp) c hc
  have hdisB : ∀ q ∈ B, ∀ c : Nat, ¬ (inN nd c ∧ inN q c) := fun q hq' c hc => (List.pairwise_cons.1 (List.pairwise_append.1 hap.pc).2.1).1 q hq' c hc
  have hfr : ∀ j, j < nd.h → ¬ inN nd (cel j 20 P) := fun j hj hin => by
    rcases (front_at h (i := j) (by omega)).2 with q | ⟨q, hq', i2⟩
    · unfold inN at hin; omega
    · exact hdisj q hq' _ ⟨i2, hin⟩
  obtain ⟨s3, g1, g2, ok3, l3, g5, g6⟩ := unhang_ok (la.take nd.h) (nd.a + 2) s2 h2.c h2.ok (by rw [hw2]; exact hlen) (by omega) (fun j hj => by
    rw [hlt] at hj
    rw [hlk j hj]
    exact ⟨_, rfl, (front_at h (by omega)).1⟩) (fun i j hi hj e => by
    rw [hlt] at hi hj
    rw [hlk i hi] at e
    have e' : cel i 20 P = nd.a + 2 + j := by have : ((cel i 20 P : Nat) : Int) = ((nd.a + 2 + j : Nat) : Int) := e; omega
    exact hfr i hi (by rw [e']; unfold inN; omega)) (fun i j hi hj hij e => by
    rw [hlt] at hi hj
    rw [hlk i hi, hlk j hj] at e
    have e' : cel i 20 P = cel j 20 P := by have : ((cel i 20 P : Nat) : Int) = ((cel j 20 P : Nat) : Int) := e; omega
    exact front_ne h (by omega) (by omega) hij e')
  rw [hlt] at g2 g5 g6
  have hun : ∀ c : Nat, (∀ j, j < nd.h → c ≠ cel j 20 P) → oat s3.W c = oat s2.W c := fun c i2 => g5 c (fun j hj e => by
    rw [hlk j hj] at e
    have : ((cel j 20 P : Nat) : Int) = (c : Int) := e
    exact i2 j hj (by omega))
  have hset : ∀ i, i < nd.h → oat s3.W (cel i 20 P) = nxt i B := fun i hi => by
    have q := g6 i hi
    rw [hlk i hi, hw2, hat.2.1 i hi] at q
    exact q
  have hsl3 := rem_sl (W := s2.W) (W' := s3.W) (by rw [l3, hw2, hlen]) (nd := nd) (B := B) (P := P) (f := hdr) h2.slf hap (fun i hi => by
    have e := hset i hi
    rw [cel_eq] at e
    exact e) (fun c _ i2 => hun c (fun j hj => by
    have e := i2 j hj
    rw [cel_eq]
    exact e))
  obtain ⟨bk, hr2⟩ := h2.rm
  have hr3 : Rom s3 40 2000 (pcs (P ++ nd :: B)) bk := hr2.keep (by rw [l3, hw2, hlen]) (fun c hc => hun c (fun j hj e => by
    rcases (front_at h (i := j) (by omega)).2 with q | ⟨q, hq', i2⟩
    · omega
    · have := h.node (q := q) (by simp [hq'])
      unfold inN at i2
      omega)) (fun k k1 k2 b hb => by
    obtain ⟨f1, f2⟩ := free_ne hr2 k1 k2 hb
    refine hun _ (fun j hj e => ?_)
    rcases (front_at h (i := j) (by omega)).2 with q | ⟨q, hq', i2⟩
    · omega
    · exact f2 q (List.mem_map.2 ⟨q, by simp [hq'], rfl⟩) (by rw [e]; exact i2))
  have hidx : (pcs (P ++ nd :: B))[P.length]? = some ((nd.a : Int), ((2 + nd.h : Nat) : Int)) := by
    unfold pcs
    rw [List.getElem?_map, List.getElem?_append_right (Nat.le_refl _)]
    simp
  have c3 : s3.c = 0 := g2.c.trans h2.c
  obtain ⟨s4, e4, v4⟩ := hr3.give_ok c3 (2 + nd.h) (by omega) (by omega) (nd.a : Int) (List.mem_of_getElem? hidx)
  have hr4 := hr3.gave (2 + nd.h) (by omega) (by omega) (nd.a : Int) P.length hidx s4 v4.w
  have her : (pcs (P ++ nd :: B)).eraseIdx P.length = pcs (P ++ B) := by
    unfold pcs
    rw [List.map_append, List.map_cons, List.map_append]
    have e : P.length = (P.map fun q : Sn => ((q.a : Int), ((2 + q.h : Nat) : Int))).length := by simp
    rw [e, List.eraseIdx_append_of_length_le (Nat.le_refl _)]
    simp
  rw [her] at hr4
  have hw5 : uw ((nd.a : Int) + 2) = ((nd.a + 2 : Nat) : Int) := by rw [uw_of (by omega) (by omega)]; omega
  have hw6 : uw (2 + (nd.h : Int)) = ((2 + nd.h : Nat) : Int) := by rw [uw_of (by omega) (by omega)]; omega
  have ec : ∀ c : Nat, 18 ≤ c → c ≠ nd.a → oat s4.W c = oat s3.W c := fun c h18 hne => by
    rw [v4.w, oat_ne (by omega), oat_ne (by omega)]
  have ok4 : s4.Ok := by
    have q := ok_set (s := s3) (s' := { s3 with W := s3.W.set (nd.a : Int).toNat (oat s3.W (1 + (2 + nd.h))) }) ok3 (oat_isW ok3.1 _) rfl
    exact ok_set q (x := (nd.a : Int) + 1) ⟨by omega, by omega⟩ v4.w
  have hns : SlF s4.W hdr (P ++ B) := by
    refine ⟨fun i hi => by rw [ec _ (by unfold hdr; omega) (by unfold hdr; omega)]; exact hsl3.lnk i hi, ns_keep (by rw [v4.w]; simp) (fun q hq' c hc => ec c ?_ ?_) hsl3.ns⟩
    · have := h.node (q := q) (by rcases List.mem_append.1 hq' with z | z <;> simp [z])
      unfold inN at hc
      omega
    · intro e
      rcases List.mem_append.1 hq' with z | z
      · exact hdisj q z c ⟨hc, by rw [e]; unfold inN; omega⟩
      · exact hdisB q z c ⟨by rw [e]; unfold inN; omega, hc⟩
  have hhv := haveB_yes hla hq hn.2.1
  have hh : unhangL (la.take ((nd.h : Int)).toNat) (uw ((lk la 0).nd + 2)) s2 = (0, s3) := by
    rw [hnd, hw5, show ((nd.h : Int)).toNat = nd.h by omega]
    exact g1
  have hgv : s3.give 0 (lk la 0).nd (uw (2 + (nd.h : Int))) = (0, s4) := by
    rw [hnd, hw6]
    exact e4
  refine ⟨s4, ?_, ?_, ⟨v4.c.trans c3, ok4, ⟨fun i hi => hns.lnk i hi, hns.ns, ?_, by rw [v4.w]; simp [l3], by have := h.sl.few; simp at this ⊢; omega⟩, ⟨_, hr4⟩, ?_⟩⟩
  · unfold Wd.rem
    rw [e1]
    dsimp only
    rw [if_neg (by rw [hhv]; simp), hlv]
    dsimp only
    rw [if_neg (by simp), hh]
    dsimp only
    rw [if_neg (by simp), hgv]
    rfl
  · have q := ((v1.trans v2).aft.trans g2).trans v4
    exact ⟨rfl, q.c, q.g, by have := q.len; omega⟩
  · have hu := List.pairwise_append.1 h.sl.up
    exact List.pairwise_append.2 ⟨hu.1, (List.pairwise_cons.1 hu.2.1).2, fun y hy z hz => hu.2.2 y hy z (by simp [hz])⟩
  · show oat s4.W 0 ≤ _
    rw [v4.w, oat_ne (by omega), oat_ne (by omega), hun 0 (fun j hj e => by
      rcases (front_at h (i := j) (by omega)).2 with q | ⟨q, hq', i2⟩
      · omega
      · have := h.node (q := q) (by simp [hq'])
        unfold inN at i2
        omega)]
    exact h2.nb
end
end Go.Proofs.Ytifmpiiaebnbiaa
