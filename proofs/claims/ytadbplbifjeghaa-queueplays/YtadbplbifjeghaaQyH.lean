
/- Given of a room, pure (layer 23). No statement of the seat is proved here. -/
import Derived.Test.YtadbplbifjeghaaQyG
import Derived.Test.YtadbplbifjeghaaQuI
namespace Go.Proofs.Ytadbplbifjeghaa
open Go.RowKit

theorem gv_go : ∀ (l out : List Int) (s : Wd) (x K : Int) (k : Nat), Lk s K → K + l.length < 4611686018427387904 → chain s.W x l → (∀ a ∈ l, 0 ≤ a ∧ a < s.W.length ∧ a < 1000000) → out.length + l.length < 65536 → l.length < k →
    ∃ s', (Gv.go k ⟨out, x, 0, s⟩).fin = ((out ++ l, 0), s') ∧ s'.W = s.W ∧ Lk s' (K + l.length)
  | [], out, s, x, K, k, hk, _, hc, _, _, _ => by
    have hx : x = 0 := hc
    subst hx
    rw [Gv.go_stop (fun q => q.2.1 rfl)]
    refine ⟨s, ?_, rfl, by simpa using hk⟩
    unfold Gv.fin
    simp
  | a :: l, out, s, x, K, k, hk, hK, hc, hi, ho, hlk => by
    obtain ⟨hx, hc2⟩ := hc
    have ha := hi a (by simp)
    have hx1 : uw (x - 1) = a := by rw [hx]; exact (by unfold uw; rw [IntKind.wrap_u64]; omega)
    simp only [List.length_cons] at hK ho hlk
    obtain ⟨k, rfl⟩ : ∃ j, k = j + 1 := ⟨k - 1, by omega⟩
    rw [Gv.go_next (show Gv.on _ from ⟨rfl, (by show x ≠ 0; omega), (by show out.length ≠ 65536; omega)⟩)]
    have g1 := get_in hk ha.1 ha.2.1
    have e1 : Gv.step ⟨out, x, 0, s⟩ = ⟨out ++ [a], oat s.W a.toNat, 0, s.dec⟩ := by
      unfold Gv.step
      dsimp only
      rw [hx1, g1]
    rw [e1]
    obtain ⟨s', h1, h2, h3⟩ := gv_go l (out ++ [a]) s.dec (oat s.W a.toNat) (K + 1) k (hk.dec (by omega)) (by omega) hc2 (fun b hb => hi b (by simp [hb])) (by simp; omega) (by omega)
    refine ⟨s', by rw [h1]; simp, h2, ?_⟩
    rw [show K + ((a :: l).length : Int) = K + 1 + l.length by simp; omega]
    exact h3
theorem Rm.bk_len {s : Wd} {fr to : Int} {O : List (Int × Int)} {bk : Nat → List Int} (h : Rm s fr to O bk) {n : Nat} (h1 : 1 ≤ n) (h2 : n ≤ 16) : (bk n).length ≤ 1000 := by
  have hb := h.bs n h1 h2
  have hn : (bk n).Nodup := hb.imp (fun {a b} q e => by subst e; unfold PD at q; dsimp only at q; omega)
  exact nd_len 1000 _ hn (fun x hx => by have := h.bk_low h1 h2 hx; have := h.to1; omega)
theorem Rm.given {s : Wd} {fr to K : Int} {O : List (Int × Int)} {bk : Nat → List Int} (h : Rm s fr to O bk) (hk : Lk s K) (hK : K + 2000 < 4611686018427387904) {n : Nat} (h1 : 1 ≤ n) (h2 : n ≤ 16) :
    ∃ s', s.given 0 n = (((bk n).reverse, 0), s') ∧ s'.W = s.W ∧ Lk s' (K + 1001) := by
  have hm : mayN (n : Int) := ⟨by omega, by omega⟩
  have hlen := h.len
  have hto := h.to18
  have hto1 := h.to1
  have hbl := h.bk_len h1 h2
  have g1 := get_in hk (a := hdA 0 n) (by rw [hdA0 hm]; omega) (by rw [hdA0 hm]; omega)
  rw [hdA0 hm] at g1
  have e : (1 + (n : Int)).toNat = 1 + n := by omega
  rw [e] at g1
  obtain ⟨s', q1, q2, q3⟩ := gv_go (bk n).reverse [] s.dec (oat s.W (1 + n)) (K + 1) 65536 (hk.dec (by omega)) (by simp; omega) (h.ch n h1 h2) (fun a ha => by
    have := h.bk_low h1 h2 (List.mem_reverse.1 ha)
    show 0 ≤ a ∧ a < (s.W.length : Int) ∧ a < 1000000
    omega) (by simp; omega) (by simp; omega)
  refine ⟨s', ?_, q2, q3.more (by simp; omega) (by omega)⟩
  unfold Wd.given
  rw [if_neg (fun q => q hm), hdA0 hm, g1]
  simpa using q1
/-- Both rooms tell the same. -/
theorem Iv.given {s r : Wd} {N K : Int} {E : List Qe} (h : Iv s r N E K) {n : Nat} (h1 : 1 ≤ n) (h2 : n ≤ 16) :
    ∃ l s' r', l.length ≤ 1000 ∧ s.given 0 n = ((l, 0), s') ∧ r.given 0 n = ((l, 0), r') ∧ s'.W = s.W ∧ (s'.Ok → r'.Ok → K + 1001 + 4000000 < 4611686018427387904 → Iv s' r' N E (K + 1001)) := by
  obtain ⟨bk, r1, r2⟩ := h.ex
  have hb := h.kb
  obtain ⟨s', p1, p2, p3⟩ := r1.given h.gs.lk (by omega) h1 h2
  obtain ⟨r', q1, q2, q3⟩ := r2.given h.gr.lk (by omega) h1 h2
  exact ⟨_, s', r', by rw [List.length_reverse]; exact r1.bk_len h1 h2, p1, q1, p2, fun o1 o2 hK => h.look p2 q2 ⟨p3, o1⟩ ⟨q3, o2⟩ hK⟩
end Go.Proofs.Ytadbplbifjeghaa
