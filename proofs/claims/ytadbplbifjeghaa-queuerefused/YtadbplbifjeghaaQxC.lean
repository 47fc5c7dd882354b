
/- Pure (layer 23): New and Put on queues in a room. No statement of the seat is proved here. -/
import Derived.Test.YtadbplbifjeghaaQxB
namespace Go.Proofs.Ytadbplbifjeghaa
open Go.RowKit

theorem addk {a : Int} (k : Nat) (h0 : 0 ≤ a) (h1 : a + k < 18446744073709551616) : uw (a + (k : Int)) = a + k := uw_of (by omega) (by omega)
theorem puts_nil (a : Int) (l : List Int) (s : Wd) : putK a l s 0 = (0, s) := rfl
theorem puts_step {a : Int} {l : List Int} {s s1 s2 : Wd} {k : Nat} (h : putK a l s k = (0, s1)) (hp : s1.put (uw (a + (k : Int))) (oat l k) = (0, s2)) : putK a l s (k + 1) = (0, s2) := by
  unfold putK
  rw [h]
  simp only [ne_eq, not_true_eq_false, if_false]
  exact hp
theorem putsU_of {a : Int} {l : List Int} {s s1 : Wd} (h : putK a l s l.length = (0, s1)) : putsU a l s = (((), 0), s1) := by
  have e : s.puts a l = (0, s1) := h
  unfold putsU
  rw [e]
theorem putU_of {a x : Int} {s s1 : Wd} (h : s.put a x = (0, s1)) : putU a x s = (((), 0), s1) := by unfold putU; rw [h]
theorem q1_of {q : Int} (h0 : 0 ≤ q) (h1 : q < 18446744073709551610) : q1 q = q + 1 := uw_of (by omega) (by omega)
theorem q2_of {q : Int} (h0 : 0 ≤ q) (h1 : q < 18446744073709551610) : q2 q = q + 2 := uw_of (by omega) (by omega)
theorem toNat_ne {a b : Int} (ha : 0 ≤ a) (hb : 0 ≤ b) (h : a ≠ b) : a.toNat ≠ b.toNat := by omega
theorem oat_set_ne {l : List Int} {a b x : Int} (ha : 0 ≤ a) (hb : 0 ≤ b) (h : a ≠ b) : oat (l.set a.toNat x) b.toNat = oat l b.toNat := oat_ne (toNat_ne ha hb h)
theorem oat_set_eq {l : List Int} {a x : Int} (ha : 0 ≤ a) (h : a < l.length) : oat (l.set a.toNat x) a.toNat = x := oat_eq (by omega)

section
variable {s r : Wd} {N K : Int} {bk : Nat → List Int} {R : List (Int × Int)}

/-- New. -/
theorem new_ok (hs : Rm s 18 N R bk) (hr : Rm r 18 N R bk) (hn : nx s = nx r) (gs : Gd s K) (gr : Gd r K) (hK : K + 40 < 4611686018427387904) :
    (∃ s' r', Wd.qnew 0 s = ((0, 9), s') ∧ r.take 0 3 = ((0, 9), r') ∧ s'.W = s.W ∧ r'.W = r.W ∧ Gd s' (K + 40) ∧ Gd r' (K + 40) ∧ N - nx s < 3) ∨
    (∃ a bk' s' r', Wd.qnew 0 s = ((a, 0), s') ∧ r.take 0 3 = ((a, 0), r') ∧ Rm s' 18 N (pcq ⟨a, []⟩ ++ R) bk' ∧ Rm r' 18 N (pcq ⟨a, []⟩ ++ R) bk' ∧ nx s' = nx r' ∧ Wh s'.W a [] ∧ (∀ c, inP R c → oat s'.W c.toNat = oat s.W c.toNat) ∧ s'.W.length = s.W.length ∧ isW a ∧ Gd s' (K + 40) ∧ Gd r' (K + 40) ∧ nx s' ≤ nx s + 3) := by
  rcases took_both hs hr hn gs gr (by omega) 3 (by omega) (by omega) with ⟨s', r', h1, h2, h3, h4, h5, h6, h7⟩ | ⟨a, bk', s1, r1, h1, h2, h3, h4, h5, h6, h7, h8, h9, h10⟩
  · refine .inl ⟨s', r', ?_, h2, h3, h4, h5.more (by omega) hK, h6.more (by omega) hK, h7⟩
    unfold Wd.qnew
    exact bnd_no h1 (by decide)
  · have h3' : Rm s1 18 N ((a, 3) :: R) bk' := h3
    have b := h3'.inb List.mem_cons_self
    obtain ⟨s2, p1, w1, m1, g1⟩ := put_out h3' h8 (by omega) (x := 0) (c := a) List.mem_cons_self (by omega) (by omega) zero_isW'
    obtain ⟨s3, p2, w2, m2, g2⟩ := put_out m1 g1 (by omega) (x := 0) (c := a + 1) List.mem_cons_self (by omega) (by omega) zero_isW'
    obtain ⟨s4, p3, w3, m3, g3⟩ := put_out m2 g2 (by omega) (x := 0) (c := a + 2) List.mem_cons_self (by omega) (by omega) zero_isW'
    have q0 : putK a [0, 0, 0] s1 1 = (0, s2) := puts_step (puts_nil _ _ _) (by rw [show uw (a + ((0 : Nat) : Int)) = a by rw [addk 0 (by omega) (by omega)]; omega]; exact p1)
    have q1' : putK a [0, 0, 0] s1 2 = (0, s3) := puts_step q0 (by rw [addk 1 (by omega) (by omega)]; exact p2)
    have q2' : putK a [0, 0, 0] s1 3 = (0, s4) := puts_step q1' (by rw [addk 2 (by omega) (by omega)]; exact p3)
    have hW : s4.W = ((s1.W.set a.toNat 0).set (a + 1).toNat 0).set (a + 2).toNat 0 := by rw [w3, w2, w1]
    have hlen : s4.W.length = s1.W.length := by rw [hW]; simp
    have hin : ∀ c : Int, a ≤ c → c < a + 3 → oat s4.W c.toNat = 0 := fun c h1 h2 => by
      rw [hW]
      have : c = a ∨ c = a + 1 ∨ c = a + 2 := by omega
      rcases this with rfl | rfl | rfl
      · rw [oat_set_ne (by omega) (by omega) (by omega), oat_set_ne (by omega) (by omega) (by omega), oat_set_eq (by omega) (by omega)]
      · rw [oat_set_ne (by omega) (by omega) (by omega), oat_set_eq (by omega) (by rw [List.length_set]; omega)]
      · rw [oat_set_eq (by omega) (by rw [List.length_set, List.length_set]; omega)]
    have e : nx s4 = nx s1 := by
      show oat s4.W 0 = oat s1.W 0
      rw [hW, oat_ne (by omega), oat_ne (by omega), oat_ne (by omega)]
    refine .inr ⟨a, bk', s4, r1, ?_, h2, m3, h4, ?_, ⟨by omega, by rw [hlen]; omega, hin _ (by omega) (by omega), by simp, hin _ (by omega) (by omega), hin _ (by omega) (by omega)⟩, fun c hc => ?_, hlen.trans h7, ⟨by omega, by omega⟩, g3.more (by omega) hK, h9.more (by omega) hK, by rw [e]; exact h10⟩
    · unfold Wd.qnew
      rw [bnd_ok h1, bnd_ok (putsU_of q2')]
      rfl
    · rw [e]
      exact h5
    · obtain ⟨p, hp, c1, c2⟩ := hc
      have pd := List.rel_of_pairwise_cons h3'.oo hp
      have bp := h3'.inb (a := p.1) (n := p.2) (List.mem_cons_of_mem _ hp)
      unfold PD at pd
      dsimp only at pd
      rw [hW, oat_set_ne (by omega) (by omega) (by omega), oat_set_ne (by omega) (by omega) (by omega), oat_set_ne (by omega) (by omega) (by omega)]
      exact h6 _ (by omega)

theorem lastL_mem : ∀ {a : Int} {n : Int} {ns : List Int}, ∃ m ∈ n :: ns, lastL a (n :: ns) = m + 1
  | _, n, [] => ⟨n, List.mem_cons_self, rfl⟩
  | _, n, k :: ns => by
    obtain ⟨m, hm, e⟩ := lastL_mem (a := n + 1) (n := k) (ns := ns)
    exact ⟨m, List.mem_cons_of_mem _ hm, e⟩
theorem lastL_snoc (a : Int) : ∀ (ns : List Int) (x : Int), lastL a (ns ++ [x]) = x + 1
  | [], _x => rfl
  | n :: ns, x => lastL_snoc (n + 1) ns x
/-- One node more at a chain's end. -/
theorem lk_snoc {W W' : List Int} (hl : W'.length = W.length) {x : Int} (hx0 : 0 ≤ x) (hx1 : x + 1 < W.length) (hxe : oat W' (x + 1).toNat = 0) : ∀ {to : Int} {n : Int} {ns : List Int}, (n :: ns).Nodup → lk W to (n :: ns) → (∀ m ∈ n :: ns, m + 1 ≠ lastL 0 (n :: ns) → oat W' (m + 1).toNat = oat W (m + 1).toNat) → oat W' (lastL 0 (n :: ns)).toNat = x + 1 → lk W' to (n :: ns ++ [x])
  | to, n, [], _, h, _, hlast => ⟨h.1, h.2.1, by rw [hl]; exact h.2.2.1, by
      have e : oat W' (n + 1).toNat = x + 1 := hlast
      rw [e]
      exact ⟨rfl, hx0, by rw [hl]; exact hx1, hxe⟩⟩
  | to, n, k :: ns, hnd, h, hc, hlast => by
    have e : lastL 0 (n :: k :: ns) = lastL 0 (k :: ns) := rfl
    obtain ⟨m, hm, em⟩ := lastL_mem (a := 0) (n := k) (ns := ns)
    have hne : n + 1 ≠ lastL 0 (n :: k :: ns) := by
      rw [e, em]
      intro q
      have : n = m := by omega
      subst this
      exact (List.nodup_cons.1 hnd).1 hm
    refine ⟨h.1, h.2.1, by rw [hl]; exact h.2.2.1, ?_⟩
    rw [hc n List.mem_cons_self hne]
    exact lk_snoc hl hx0 hx1 hxe (List.nodup_cons.1 hnd).2 h.2.2.2 (fun m hm q => hc m (List.mem_cons_of_mem _ hm) q) hlast
end
end Go.Proofs.Ytadbplbifjeghaa
