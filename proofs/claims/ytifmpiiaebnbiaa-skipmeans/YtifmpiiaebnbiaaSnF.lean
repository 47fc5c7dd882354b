
/- Pure (layer 22): Insert over a set in its room. No statement of the seat is proved here. -/
import Derived.Test.YtifmpiiaebnbiaaSnE
namespace Go.Proofs.Ytifmpiiaebnbiaa
open Go.RowKit

section
variable {s : Wd} {N P B : List Sn} {m : Nat} {x : Int}
def hdr (i : Nat) : Nat := 20 + i
theorem pd_in {q r : Sn} (h : PD ((q.a : Int), ((2 + q.h : Nat) : Int)) ((r.a : Int), ((2 + r.h : Nat) : Int))) (c : Nat) : ¬ (inN q c ∧ inN r c) := fun ⟨h1, h2⟩ => by
  unfold PD at h
  unfold inN at h1 h2
  dsimp only at h
  omega
theorem Ss.node (h : Ss s N m) {q : Sn} (hq : q ∈ N) : 40 ≤ q.a ∧ 1 ≤ q.h ∧ q.h ≤ 8 ∧ q.a + 2 + q.h ≤ 2000 := by
  obtain ⟨bk, hr⟩ := h.rm
  have h1 := hr.oin ((q.a : Int), ((2 + q.h : Nat) : Int)) (List.mem_map.2 ⟨q, hq, rfl⟩)
  have h2 := hr.nx1
  obtain ⟨A, C, e⟩ := List.append_of_mem hq
  have h3 := (Ns.at_ (e ▸ h.sl.ns)).1
  dsimp only at h1
  omega
theorem Ss.apt (h : Ss s N m) : Apt hdr N := by
  obtain ⟨bk, hr⟩ := h.rm
  refine ⟨fun i j _ _ e => by unfold hdr at e; omega, fun i hi q hq hin => ?_, ?_⟩
  · have := h.node hq
    unfold hdr inN at hin
    omega
  · have q := List.pairwise_map.1 hr.oo
    exact q.imp (fun {a b} hd c => pd_in hd c)
theorem Ss.slf (h : Ss s N m) : SlF s.W hdr N := ⟨fun i hi => h.sl.lnk i hi, h.sl.ns⟩
theorem SlF.same {W W' : List Int} (h : SlF W hdr N) (hl : W'.length = W.length) (hn : ∀ q ∈ N, 18 ≤ q.a) (e : ∀ c : Nat, 18 ≤ c → oat W' c = oat W c) : SlF W' hdr N :=
  ⟨fun i hi => by rw [e _ (by unfold hdr; omega)]; exact h.lnk i hi, ns_keep hl (fun q hq c hc => e c (by have := hn q hq; unfold inN at hc; omega)) h.ns⟩
theorem hgt_nat (level : Int) : ∃ n : Nat, hgt level = (n : Int) ∧ 1 ≤ n ∧ n ≤ 8 := ⟨(hgt level).toNat, by unfold hgt; omega, by unfold hgt; omega, by unfold hgt; omega⟩
/-- Take from the room of a set. -/
theorem Ss.take (h : Ss s N m) (hm : m ≤ 190) (n : Nat) (h1 : 1 ≤ n) (h2 : n ≤ 10) :
    ∃ (a : Nat) (s' : Wd), s.take 0 (n : Int) = (((a : Int), 0), s') ∧ Aft s s' 4 s'.W ∧ s'.Ok ∧ s'.W.length = 2000 ∧ 40 ≤ a ∧ a + n ≤ 2000 ∧ (∀ c : Nat, 18 ≤ c → oat s'.W c = oat s.W c) ∧ nx s' ≤ 40 + 10 * ((m + 1 : Nat) : Int) ∧ (∀ p ∈ pcs N, PD p ((a : Int), (n : Int))) ∧ ∃ bk, Rom s' 40 2000 (pcs N ++ [((a : Int), (n : Int))]) bk := by
  obtain ⟨bk, hr⟩ := h.rm
  have hx := h.nb
  have h0 := hr.nx0
  have hlen := h.sl.len
  have hnx : nx s = oat s.W 0 := rfl
  rcases hr.take h.c n h1 (by omega) (by omega) with ⟨he, s', e, v⟩ | ⟨a, r, s', he, e, v⟩
  · obtain ⟨g1, g2⟩ := hr.took_new n h1 (by omega) (by omega) s' v.w
    obtain ⟨a, ha⟩ : ∃ a : Nat, nx s = (a : Int) := ⟨(nx s).toNat, by omega⟩
    rw [ha] at e g1 g2
    have e0 : oat s'.W 0 = (a : Int) + n := by rw [v.w, ha]; exact oat_eq (by omega)
    have hg := g1.nx1
    exact ⟨a, s', e, ⟨rfl, v.c, v.g, v.len⟩, ok_set h.ok ⟨by omega, by omega⟩ v.w, by rw [v.w, List.length_set]; exact hlen, by omega, by omega, fun c hc => by rw [v.w]; exact oat_ne (by omega), by show oat s'.W 0 ≤ _; omega, g2, bk, g1⟩
  · obtain ⟨g1, g2, g3, g4⟩ := hr.took_old n h1 (by omega) a r he s' v.w
    obtain ⟨a', rfl⟩ : ∃ a' : Nat, a = (a' : Int) := ⟨a.toNat, by omega⟩
    have e0 : oat s'.W 0 = oat s.W 0 := by rw [v.w]; exact oat_ne (by omega)
    exact ⟨a', s', e, ⟨rfl, v.c, v.g, by have := v.len; omega⟩, ok_set h.ok (oat_isW h.ok.1 _) v.w, by rw [v.w, List.length_set]; exact hlen, by omega, by omega, fun c hc => by rw [v.w]; exact oat_ne (by omega), by show oat s'.W 0 ≤ _; omega, g2, _, g1⟩
theorem lk_take {la : List Lk} {n i : Nat} (h : i < n) : lk (la.take n) i = lk la i := by unfold lk; rw [List.getElem?_take_of_lt h]
/-- Where the front of a set's links is. -/
theorem front_at (h : Ss s (P ++ B) m) {i : Nat} (hi : i < 8) : cel i 20 P < 2000 ∧ ((20 ≤ cel i 20 P ∧ cel i 20 P < 28) ∨ ∃ q ∈ P, inN q (cel i 20 P)) := by
  rw [cel_eq]
  rcases celF_in (i := i) P (20 + i) with ⟨e, _⟩ | ⟨q, hq, e, h1⟩
  · rw [e]; exact ⟨by omega, .inl ⟨by omega, by omega⟩⟩
  · have := h.node (q := q) (by simp [hq])
    rw [e]
    exact ⟨by omega, .inr ⟨q, hq, by unfold inN; omega⟩⟩
theorem front_ne (h : Ss s (P ++ B) m) {i j : Nat} (hi : i < 8) (hj : j < 8) (hij : i ≠ j) : cel i 20 P ≠ cel j 20 P := fun e => by
  have hap := h.apt
  rw [cel_eq, cel_eq] at e
  rcases celF_in (i := i) P (20 + i) with ⟨e1, _⟩ | ⟨q, hq, e1, h1⟩
  · rcases celF_in (i := j) P (20 + j) with ⟨e2, _⟩ | ⟨r, hr, e2, h2⟩
    · omega
    · have := h.node (q := r) (by simp [hr]); omega
  · rcases celF_in (i := j) P (20 + j) with ⟨e2, _⟩ | ⟨r, hr, e2, h2⟩
    · have := h.node (q := q) (by simp [hq]); omega
    · rw [e1, e2] at e
      by_cases hqr : q = r
      · subst hqr; omega
      · have hm1 : q ∈ P ++ B := by simp [hq]
        have hm2 : r ∈ P ++ B := by simp [hr]
        have key : ∀ {L : List Sn}, L.Pairwise (fun a b => ∀ c, ¬ (inN a c ∧ inN b c)) → q ∈ L → r ∈ L → False := fun {L} hp a b => by
          induction L with
          | nil => simp at a
          | cons y L ih =>
            obtain ⟨p1, p2⟩ := List.pairwise_cons.1 hp
            rcases List.mem_cons.1 a with ea | a2
            · rcases List.mem_cons.1 b with eb | b2
              · exact hqr (ea.trans eb.symm)
              · exact p1 r b2 (q.a + 2 + i) ⟨by rw [← ea]; unfold inN; omega, by unfold inN; omega⟩
            · rcases List.mem_cons.1 b with eb | b2
              · exact p1 q a2 (q.a + 2 + i) ⟨by rw [← eb]; unfold inN; omega, by unfold inN; omega⟩
              · exact ih p2 a2 b2
        exact key hap.pc hm1 hm2
theorem nxt_bound (h : Ss s N m) {R : List Sn} (hR : ∀ q ∈ R, q ∈ N) (i : Nat) : isW (nxt i R) := by
  by_cases h0 : nxt i R = 0
  · rw [h0]; exact zero_w
  · obtain ⟨D, q, C, e, _, _, h4, _⟩ := nxt_split h0
    have := h.node (hR q (by rw [e]; simp))
    rw [h4]
    exact ⟨by omega, by omega⟩
theorem haveB_no {la : List Lk} (h : ∀ i, i < 8 → lk la i = ⟨((cel i 20 P : Nat) : Int), nxt i B, nxk i B⟩) (hB : ∀ q ∈ B, x < q.k) : haveB la x = false := by
  unfold haveB
  rw [h 0 (by omega)]
  by_cases h0 : nxt 0 B = 0
  · simp [Lk.leads, h0]
  · obtain ⟨D, q, C, e, _, _, h4, h5⟩ := nxt_split h0
    have := hB q (by rw [e]; simp)
    have hne : nxk 0 B ≠ x := by omega
    simp [hne]
theorem haveB_yes {la : List Lk} {q : Sn} {C : List Sn} (h : ∀ i, i < 8 → lk la i = ⟨((cel i 20 P : Nat) : Int), nxt i (q :: C), nxk i (q :: C)⟩) (hq : q.k = x) (h1 : 1 ≤ q.h) : haveB la x = true := by
  unfold haveB
  rw [h 0 (by omega), nxt_yes (by omega), nxk_yes (by omega)]
  have : (q.a : Int) + 1 ≠ 0 := by omega
  simp [Lk.leads, this, hq]
/-- Insert of a word that is there. -/
theorem ins_has {q : Sn} {C : List Sn} (h : Ss s (P ++ q :: C) m) (hP : ∀ y ∈ P, y.k < x) (hq : q.k = x) (level : Int) : ∃ s', s.ins 0 20 x level = ((false, 0), s') ∧ Seen s s' 2100 := by
  have hup := (List.pairwise_append.1 h.sl.up).2.1
  obtain ⟨la, s1, e1, _, v1, hla⟩ := search_sl (p := pLt x) h.c h.sl (fun y hy => by have := hP y hy; unfold pLt; simp; omega) (fun y hy => by
    unfold pLt
    rcases List.mem_cons.1 hy with rfl | hy
    · simp; omega
    · have := (List.pairwise_cons.1 hup).1 y hy
      simp; omega)
  refine ⟨s1, ?_, v1⟩
  unfold Wd.ins
  rw [e1]
  dsimp only
  rw [if_pos (.inr (haveB_yes hla hq (h.node (by simp)).2.1))]
end
end Go.Proofs.Ytifmpiiaebnbiaa
