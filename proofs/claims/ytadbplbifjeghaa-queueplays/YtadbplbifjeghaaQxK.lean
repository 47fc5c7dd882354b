
/- Both worlds beside one another: what holds of the queues, call by call (layer 23). No statement of the seat is proved here. -/
import Derived.Test.YtadbplbifjeghaaQxJ
namespace Go.Proofs.Ytadbplbifjeghaa
open Go.RowKit

def Qe.q (e : Qe) : Qu := ⟨e.a, e.ns⟩
def allE (E : List Qe) : List (Int × Int) := E.flatMap fun e => pcq e.q
/-- What holds between calls. -/
structure Iv (s r : Wd) (N : Int) (E : List Qe) (K : Int) : Prop where
  ex : ∃ bk, Rm s 18 N (allE E) bk ∧ Rm r 18 N (allE E) bk
  nxe : nx s = nx r
  gs : Gd s K
  gr : Gd r K
  wh : ∀ e ∈ E, Wh s.W e.a e.ns ∧ e.ws = e.q.ws s.W
  kb : K + 4000000 < 4611686018427387904
def BIG : Int := 4611686018427387904
theorem allE_mid (A B : List Qe) (e : Qe) : (allE (A ++ e :: B)).Perm (pcq e.q ++ (allE A ++ allE B)) := by
  unfold allE
  rw [List.flatMap_append, List.flatMap_cons, ← List.append_assoc, ← List.append_assoc]
  exact List.Perm.append_right _ List.perm_append_comm
theorem allE_two (A B : List Qe) : allE (A ++ B) = allE A ++ allE B := by unfold allE; rw [List.flatMap_append]
theorem inP_of {A B : List Qe} {e : Qe} (he : e ∈ A ∨ e ∈ B) {c : Int} (h : inP (pcq e.q) c) : inP (allE A ++ allE B) c := by
  obtain ⟨p, hp, h1⟩ := h
  refine ⟨p, ?_, h1⟩
  rcases he with he | he
  · exact List.mem_append_left _ (List.mem_flatMap.2 ⟨e, he, hp⟩)
  · exact List.mem_append_right _ (List.mem_flatMap.2 ⟨e, he, hp⟩)
section
variable {s r s' r' : Wd} {N K : Int} {E A B : List Qe} {e : Qe}
/-- Who only looks. -/
theorem Iv.look (h : Iv s r N E K) (hs : s'.W = s.W) (hr : r'.W = r.W) {K' : Int} (gs : Gd s' K') (gr : Gd r' K') (hK : K' + 4000000 < 4611686018427387904) : Iv s' r' N E K' := by
  obtain ⟨bk, h1, h2⟩ := h.ex
  refine ⟨⟨bk, h1.same hs, h2.same hr⟩, ?_, gs, gr, fun e he => ?_, hK⟩
  · show oat s'.W 0 = oat r'.W 0
    rw [hs, hr]; exact h.nxe
  · rw [hs]; exact h.wh e he
theorem Iv.more (h : Iv s r N E K) {K' : Int} (h1 : K ≤ K') (h2 : K' + 4000000 < 4611686018427387904) : Iv s r N E K' := ⟨h.ex, h.nxe, h.gs.more h1 (by omega), h.gr.more h1 (by omega), h.wh, h2⟩
/-- New. -/
theorem Iv.new (h : Iv s r N E K) :
    (∃ s' r', Wd.qnew 0 s = ((0, 9), s') ∧ r.take 0 3 = ((0, 9), r') ∧ s'.W = s.W ∧ N - nx s < 3 ∧ (K + 4000040 < 4611686018427387904 → Iv s' r' N E (K + 40))) ∨
    (∃ a s' r', Wd.qnew 0 s = ((a, 0), s') ∧ r.take 0 3 = ((a, 0), r') ∧ isW a ∧ s'.W.length = s.W.length ∧ nx s' ≤ nx s + 3 ∧ ∀ p vn vw, K + 4000040 < 4611686018427387904 → Iv s' r' N (E ++ [⟨p, vn, vw, a, [], []⟩]) (K + 40)) := by
  obtain ⟨bk, h1, h2⟩ := h.ex
  have hb := h.kb
  rcases new_ok h1 h2 h.nxe h.gs h.gr (by omega) with ⟨s', r', a1, a2, a3, a4, a5, a6, a66⟩ | ⟨a, bk', s', r', a1, a2, a3, a4, a5, a6, a7, a8, a9, a10, a11, a111⟩
  · exact .inl ⟨s', r', a1, a2, a3, a66, fun hK => h.look a3 a4 a5 a6 (by omega)⟩
  · refine .inr ⟨a, s', r', a1, a2, a9, a8, a111, fun p vn vw hK => ⟨⟨bk', ?_, ?_⟩, a5, a10, a11, fun e he => ?_, by omega⟩⟩
    · refine a3.perm ?_
      rw [allE_two]
      have : allE [(⟨p, vn, vw, a, [], []⟩ : Qe)] = pcq ⟨a, []⟩ := by simp [allE, Qe.q]
      rw [this]
      exact List.perm_append_comm
    · refine a4.perm ?_
      rw [allE_two]
      have : allE [(⟨p, vn, vw, a, [], []⟩ : Qe)] = pcq ⟨a, []⟩ := by simp [allE, Qe.q]
      rw [this]
      exact List.perm_append_comm
    · rcases List.mem_append.1 he with he | he
      · have hw := h.wh e he
        have hc : ∀ c, inP (pcq e.q) c → oat s'.W c.toNat = oat s.W c.toNat := fun c hc => a7 c (by
          obtain ⟨p, hp, q⟩ := hc
          exact ⟨p, List.mem_flatMap.2 ⟨e, he, hp⟩, q⟩)
        exact ⟨wh_same (q := e.q) a8 hc hw.1, by rw [hw.2]; exact (ws_same hc).symm⟩
      · obtain rfl := List.mem_singleton.1 he
        exact ⟨a6, rfl⟩
/-- The others behind a call on one. -/
theorem Iv.others (h : Iv s r N (A ++ e :: B) K) (hl : s'.W.length = s.W.length) (hc : ∀ c, inP (allE A ++ allE B) c → oat s'.W c.toNat = oat s.W c.toNat) : ∀ q, (q ∈ A ∨ q ∈ B) → Wh s'.W q.a q.ns ∧ q.ws = q.q.ws s'.W := fun q hq => by
  have hm : q ∈ A ++ e :: B := by rcases hq with hq | hq <;> simp [hq]
  have hw := h.wh q hm
  have hc' : ∀ c, inP (pcq q.q) c → oat s'.W c.toNat = oat s.W c.toNat := fun c h1 => hc c (inP_of hq h1)
  exact ⟨wh_same (q := q.q) hl hc' hw.1, by rw [hw.2]; exact (ws_same hc').symm⟩
/-- Put. -/
theorem Iv.put (h : Iv s r N (A ++ e :: B) K) {x : Int} (hx : isW x) :
    (∃ s' r', Wd.qput 0 e.a x s = (((), 9), s') ∧ r.take 0 2 = ((0, 9), r') ∧ s'.W = s.W ∧ N - nx s < 2 ∧ (K + 4000040 < 4611686018427387904 → Iv s' r' N (A ++ e :: B) (K + 40))) ∨
    (∃ a s' r', Wd.qput 0 e.a x s = (((), 0), s') ∧ r.take 0 2 = ((a, 0), r') ∧ isW a ∧ s'.W.length = s.W.length ∧ nx s' ≤ nx s + 2 ∧ ∀ vn vw, K + 4000040 < 4611686018427387904 → Iv s' r' N (A ++ ⟨e.p, vn, vw, e.a, e.ns ++ [a], e.ws ++ [x]⟩ :: B) (K + 40)) := by
  obtain ⟨bk, h1, h2⟩ := h.ex
  have hb := h.kb
  have hw := h.wh e (by simp)
  rcases push_ok (q := e.q) (h1.perm (allE_mid A B e)) (h2.perm (allE_mid A B e)) h.nxe h.gs h.gr (by omega) hw.1 hx with ⟨s', r', a1, a2, a3, a4, a5, a6, a66⟩ | ⟨a, bk', s', r', a1, a2, a3, a4, a5, a6, a7, a8, a9, a10, a11, a12, a13⟩
  · exact .inl ⟨s', r', a1, a2, a3, a66, fun hK => h.look a3 a4 a5 a6 (by omega)⟩
  · refine .inr ⟨a, s', r', a1, a2, a10, a9, a13, fun vn vw hK => ⟨⟨bk', a3.perm (allE_mid A B ⟨e.p, vn, vw, e.a, e.ns ++ [a], e.ws ++ [x]⟩).symm, a4.perm (allE_mid A B ⟨e.p, vn, vw, e.a, e.ns ++ [a], e.ws ++ [x]⟩).symm⟩, a5, a11, a12, fun q hq => ?_, by omega⟩⟩
    have hq' : q = ⟨e.p, vn, vw, e.a, e.ns ++ [a], e.ws ++ [x]⟩ ∨ (q ∈ A ∨ q ∈ B) := by simp at hq; rcases hq with hq | hq | hq <;> simp [hq]
    rcases hq' with rfl | hq'
    · exact ⟨a6, by show e.ws ++ [x] = _; rw [hw.2]; exact a7.symm⟩
    · exact h.others a9 a8 q hq'
/-- Take of none. -/
theorem Iv.take0 (h : Iv s r N (A ++ e :: B) K) (h0 : e.ns = []) :
    ∃ s', Wd.qtake 0 e.a s = (((0, false), 0), s') ∧ s'.W = s.W ∧ (K + 4000040 < 4611686018427387904 → Iv s' r N (A ++ e :: B) (K + 40)) := by
  obtain ⟨bk, h1, h2⟩ := h.ex
  have hb := h.kb
  obtain ⟨s', a1, a2, a3⟩ := take_none (q := e.q) (h1.perm (allE_mid A B e)) h.gs (by omega) (h.wh e (by simp)).1 h0
  exact ⟨s', a1, a2, fun hK => h.look a2 rfl a3 (h.gr.more (by omega) (by omega)) (by omega)⟩
/-- Take of one. -/
theorem Iv.take1 (h : Iv s r N (A ++ e :: B) K) {n : Int} {ns : List Int} (hns : e.ns = n :: ns) :
    ∃ x ws s' r', e.ws = x :: ws ∧ Wd.qtake 0 e.a s = (((x, true), 0), s') ∧ r.give 0 n 2 = (0, r') ∧ isW n ∧ s'.W.length = s.W.length ∧ nx s' = nx s ∧ ∀ vn vw, K + 4000040 < 4611686018427387904 → Iv s' r' N (A ++ ⟨e.p, vn, vw, e.a, ns, ws⟩ :: B) (K + 40) := by
  obtain ⟨bk, h1, h2⟩ := h.ex
  have hb := h.kb
  have hw := h.wh e (by simp)
  have hbn := (h1.perm (allE_mid A B e)).inb (mem_n (q := e.q) (R := allE A ++ allE B) (n := n) (by show n ∈ e.ns; rw [hns]; simp))
  obtain ⟨bk', s', r', a1, a2, a3, a4, a5, a6, a7, a8, a9, a10, a11, a12⟩ := take_one (q := e.q) (n := n) (ns := ns) hns (h1.perm (allE_mid A B e)) (h2.perm (allE_mid A B e)) h.nxe h.gs h.gr (by omega) hw.1
  have hws : e.ws = oat s.W n.toNat :: ns.map (fun (n : Int) => oat s.W n.toNat) := by rw [hw.2]; unfold Qu.ws Qe.q; dsimp only; rw [hns]; rfl
  refine ⟨oat s.W n.toNat, ns.map (fun (n : Int) => oat s.W n.toNat), s', r', hws, a1, a2, ⟨by omega, by omega⟩, a9, a12, fun vn vw hK => ⟨⟨bk', a3.perm (allE_mid A B ⟨e.p, vn, vw, e.a, ns, ns.map (fun (n : Int) => oat s.W n.toNat)⟩).symm, a4.perm (allE_mid A B ⟨e.p, vn, vw, e.a, ns, ns.map (fun (n : Int) => oat s.W n.toNat)⟩).symm⟩, a5, a10, a11, fun q hq => ?_, by omega⟩⟩
  have hq' : q = ⟨e.p, vn, vw, e.a, ns, ns.map (fun (n : Int) => oat s.W n.toNat)⟩ ∨ (q ∈ A ∨ q ∈ B) := by simp at hq; rcases hq with hq | hq | hq <;> simp [hq]
  rcases hq' with rfl | hq'
  · exact ⟨a6, a7.symm⟩
  · exact h.others a9 a8 q hq'
/-- First. -/
theorem Iv.first (h : Iv s r N (A ++ e :: B) K) :
    ∃ s', Wd.qfirst e.a s = (((oat e.ws 0, !e.ns.isEmpty), 0), s') ∧ s'.W = s.W ∧ (K + 4000040 < 4611686018427387904 → Iv s' r N (A ++ e :: B) (K + 40)) := by
  obtain ⟨bk, h1, h2⟩ := h.ex
  have hb := h.kb
  have hw := h.wh e (by simp)
  obtain ⟨s', a1, a2, a3⟩ := first_ok (q := e.q) (h1.perm (allE_mid A B e)) h.gs (by omega) hw.1
  exact ⟨s', by rw [hw.2]; exact a1, a2, fun hK => h.look a2 rfl a3 (h.gr.more (by omega) (by omega)) (by omega)⟩
/-- Len. -/
theorem Iv.len (h : Iv s r N (A ++ e :: B) K) :
    ∃ s', Wd.qlen e.a s = (((e.ns.length : Int), 0), s') ∧ s'.W = s.W ∧ (K + 4000040 < 4611686018427387904 → Iv s' r N (A ++ e :: B) (K + 40)) := by
  obtain ⟨bk, h1, h2⟩ := h.ex
  have hb := h.kb
  obtain ⟨s', a1, a2, a3⟩ := len_ok (q := e.q) (h1.perm (allE_mid A B e)) h.gs (by omega) (h.wh e (by simp)).1
  exact ⟨s', a1, a2, fun hK => h.look a2 rfl a3 (h.gr.more (by omega) (by omega)) (by omega)⟩
/-- Words. -/
theorem Iv.words (h : Iv s r N (A ++ e :: B) K) :
    ∃ s', Wd.qwords e.a s = ((e.ws, 0), s') ∧ s'.W = s.W ∧ (K + 4131080 < 4611686018427387904 → Iv s' r N (A ++ e :: B) (K + 131080)) := by
  obtain ⟨bk, h1, h2⟩ := h.ex
  have hb := h.kb
  have hw := h.wh e (by simp)
  have hbq := (h1.perm (allE_mid A B e)).inb (mem_q e.q (allE A ++ allE B))
  rcases qwords_all h.gs.ok h.gs.lk (by omega) (q := e.a) ⟨by have : e.q.a = e.a := rfl; omega, by have : e.q.a = e.a := rfl; omega⟩ with ⟨ns, s', a1, a2, a3, a4⟩ | ⟨no, _⟩
  · obtain rfl := lk_det a1.2.2.2.2.1 hw.1.2.2.2.2.1
    exact ⟨s', by rw [hw.2]; exact a2, a3, fun hK => h.look a3 rfl ⟨a4, by unfold Wd.Ok; rw [a3]; exact h.gs.ok⟩ (h.gr.more (by omega) (by omega)) (by omega)⟩
  · exact absurd ⟨_, hw.1⟩ no
/-- Drop. -/
theorem Iv.drop (h : Iv s r N (A ++ e :: B) K) :
    ∃ s' r1 r', Wd.qdrop 0 e.a s = (((), 0), s') ∧ givesU 0 (e.ns.map fun n => (n, 0)) r = (((), 0), r1) ∧ r1.give 0 e.a 3 = (0, r') ∧ s'.W.length = s.W.length ∧ (K + 4400000 < 4611686018427387904 → Iv s' r' N (A ++ B) (K + 400000)) := by
  obtain ⟨bk, h1, h2⟩ := h.ex
  have hb := h.kb
  have hw := h.wh e (by simp)
  obtain ⟨bk', s', r1, r', a1, a2, a3, a4, a5, a6, a7, a8, a9, a10⟩ := drop_ok (q := e.q) (h1.perm (allE_mid A B e)) (h2.perm (allE_mid A B e)) h.nxe h.gs h.gr (by omega) hw.1
  refine ⟨s', r1, r', a1, a2, a3, a8, fun hK => ⟨⟨bk', by rw [allE_two]; exact a4, by rw [allE_two]; exact a5⟩, a6, a9, a10, fun q hq => h.others a8 a7 q (List.mem_append.1 hq), by omega⟩⟩
/-- Sizes. -/
theorem Iv.small (h : Iv s r N (A ++ e :: B) K) : e.ns.length ≤ 1000 ∧ e.ws.length = e.ns.length ∧ isW e.a ∧ (∀ i, isW (oat e.ns i)) ∧ (∀ i, isW (oat e.ws i)) := by
  obtain ⟨bk, h1, h2⟩ := h.ex
  have hw := h.wh e (by simp)
  have hm := h1.perm (allE_mid A B e)
  have ap : Ap e.q (allE A ++ allE B) := hm.ap
  have hbq := hm.inb (mem_q e.q (allE A ++ allE B))
  have bn : ∀ n ∈ e.ns, 18 ≤ n ∧ n < 1000 := fun n hn => by have := hm.inb (mem_n (q := e.q) (R := allE A ++ allE B) hn); omega
  have hl : e.ns.length ≤ 1000 := nd_len 1000 e.ns ap.nd (fun n hn => by have := bn n hn; omega)
  have hws : e.ws.length = e.ns.length := by rw [hw.2]; simp [Qu.ws, Qe.q]
  refine ⟨hl, hws, ⟨by have : e.q.a = e.a := rfl; omega, by have : e.q.a = e.a := rfl; omega⟩, oat_isW (fun n hn => ?_), oat_isW (fun y hy => ?_)⟩
  · have := bn n hn; exact ⟨by omega, by omega⟩
  · rw [hw.2] at hy
    unfold Qu.ws at hy
    obtain ⟨n, _, rfl⟩ := List.mem_map.1 hy
    exact oat_isW h.gs.ok.1 _
theorem allE_len : ∀ E : List Qe, E.length ≤ (allE E).length
  | [] => Nat.le_refl _
  | e :: E => by
    have q := allE_len E
    have p : (allE (e :: E)).length = (pcq e.q).length + (allE E).length := by unfold allE; rw [List.flatMap_cons, List.length_append]
    rw [p]
    simp [pcq]
    omega
theorem Iv.many (h : Iv s r N E K) : E.length ≤ 1000 := by
  obtain ⟨bk, h1, _⟩ := h.ex
  have hi : ∀ p ∈ allE E, 18 ≤ p.1 ∧ 1 ≤ p.2 ∧ p.1 + p.2 ≤ 1000 := fun p hp => by
    have a1 := h1.oin p hp
    have a2 := h1.nx1
    have a3 := h1.to1
    have a4 := a1.2.1.1
    omega
  have hn : ((allE E).map (·.1)).Nodup := by
    refine List.pairwise_map.2 (h1.oo.imp_of_mem fun {p q} hp hq hd e => ?_)
    have := (hi p hp).2.1
    have := (hi q hq).2.1
    unfold PD at hd
    omega
  have hl := nd_len 1000 _ hn (fun x hx => by
    obtain ⟨p, hp, rfl⟩ := List.mem_map.1 hx
    have := hi p hp
    omega)
  rw [List.length_map] at hl
  exact Nat.le_trans (allE_len E) hl
end
end Go.Proofs.Ytadbplbifjeghaa
