
/- A room that is laid, and one more call that is refused at one access (layer 23), pure. No statement of the seat is proved here. -/
import Derived.Test.YtadbplbifjeghaaQzAB
import Derived.Test.YtadbplbifjeghaaQyC
import Derived.Test.YtadbplbifjeghaaQwE
import Derived.Test.YtadbplbifjeghaaQvM
namespace Go.Proofs.Ytadbplbifjeghaa
open Go.RowKit

/-- What stands while a room is laid. -/
structure Lay0 (s : Wd) (m : Nat) (fr to : Int) (K : Int) : Prop where
  lk : Lk s K
  ok : s.Ok
  len : s.W.length = m
  w0 : oat s.W 0 = fr
  w1 : oat s.W 1 = to
  z : ∀ j, 2 ≤ j → oat s.W j = 0
theorem Lay0.round {s : Wd} {m : Nat} {fr to K : Int} (hm : 18 ≤ m) (h : Lay0 s m fr to K) (hK : K + 1 < 4611686018427387904) (k : Nat) (hk : k < 16) : ∃ s', s.put (hdA 0 ((k : Int) + 1)) 0 = (0, s') ∧ Lay0 s' m fr to (K + 1) := by
  have hn : mayN ((k : Int) + 1) := ⟨by omega, by omega⟩
  have p := put_in (s := s) (a := hdA 0 ((k : Int) + 1)) (x := 0) h.lk (by rw [hdA0 hn]; omega) (by rw [hdA0 hn, h.len]; omega)
  have ok := h.ok.put (hdA 0 ((k : Int) + 1)) (x := 0) ⟨by omega, by omega⟩
  rw [p] at ok
  refine ⟨_, p, h.lk.dec hK, ok, by show (s.W.set _ 0).length = m; rw [List.length_set]; exact h.len, ?_, ?_, fun j hj => ?_⟩
  · show oat (s.W.set _ 0) 0 = fr
    rw [hdA0 hn, oat_ne (by omega)]; exact h.w0
  · show oat (s.W.set _ 0) 1 = to
    rw [hdA0 hn, oat_ne (by omega)]; exact h.w1
  · show oat (s.W.set _ 0) j = 0
    rw [oat_set]
    split
    · rfl
    · exact h.z j hj
theorem Lay0.rounds {s : Wd} {m : Nat} {fr to K : Int} (hm : 18 ≤ m) (h : Lay0 s m fr to K) : ∀ (k : Nat), k ≤ 16 → K + k < 4611686018427387904 → ∃ s', layK 0 (0, s) k = (0, s') ∧ Lay0 s' m fr to (K + k)
  | 0, _, _ => ⟨s, rfl, by simpa using h⟩
  | k + 1, hk, hK => by
    obtain ⟨s', e, h'⟩ := Lay0.rounds hm h k (by omega) (by omega)
    obtain ⟨s2, e2, h2⟩ := h'.round hm (by omega) k (by omega)
    refine ⟨s2, ?_, by rw [show K + ((k + 1 : Nat) : Int) = K + k + 1 by omega]; exact h2⟩
    show (if (layK 0 (0, s) k).1 = 0 then (layK 0 (0, s) k).2.put (hdA 0 ((k : Int) + 1)) 0 else layK 0 (0, s) k) = _
    rw [e]
    simp only [if_true]
    exact e2
theorem laidW_iv (m : Nat) (h1 : 18 ≤ m) (h2 : m ≤ 1000) : Iv (laidW m) (laidW m) m [] 20 ∧ nx (laidW m) = 18 := by
  have hZ : (List.replicate m (0 : Int)).length = m := List.length_replicate ..
  have k0 : Lk (lay0 m) 1 := ⟨by show -1 ≤ (-1 : Int); omega, by show (-1 : Int) < 0; omega, by omega⟩
  have o0 : (lay0 m).Ok := ⟨fun x hx => by rw [List.eq_of_mem_replicate hx]; exact ⟨Int.le_refl _, by simp⟩, by show (List.replicate m (0 : Int)).length ≤ _; rw [hZ]; omega⟩
  have p1 := put_in (s := lay0 m) (a := 0) (x := 18) k0 (by omega) (by show (0 : Int) < ((List.replicate m (0 : Int)).length : Int); rw [hZ]; omega)
  have o1 := o0.put 0 (x := 18) ⟨by omega, by omega⟩
  rw [p1] at o1
  have p2 := put_in (s := { (lay0 m).dec with W := (List.replicate m (0 : Int)).set (0 : Int).toNat 18 }) (K := 2) (a := 1) (x := m) (k0.dec (by omega)) (by omega) (by show (1 : Int) < (((List.replicate m (0 : Int)).set 0 18).length : Int); rw [List.length_set, hZ]; omega)
  have o2 := o1.put 1 (x := m) ⟨by omega, by omega⟩
  have e1 : (lay0 m).lay1 0 18 m = (0, { ({ (lay0 m).dec with W := (List.replicate m (0 : Int)).set (0 : Int).toNat 18 } : Wd).dec with W := ((List.replicate m (0 : Int)).set (0 : Int).toNat 18).set (1 : Int).toNat m }) := by
    unfold Wd.lay1
    rw [p1]
    simp only [if_true]
    rw [endA0]
    exact p2
  have L : Lay0 { ({ (lay0 m).dec with W := (List.replicate m (0 : Int)).set (0 : Int).toNat 18 } : Wd).dec with W := ((List.replicate m (0 : Int)).set (0 : Int).toNat 18).set (1 : Int).toNat m } m 18 m 3 := by
    refine ⟨(k0.dec (by omega)).dec (by omega), ?_, by show (((List.replicate m (0 : Int)).set 0 18).set 1 _).length = m; rw [List.length_set, List.length_set]; exact hZ, ?_, ?_, fun j hj => ?_⟩
    · rw [show lay0 m = lay0 m from rfl] at o2
      have q : ({ (lay0 m).dec with W := (List.replicate m (0 : Int)).set (0 : Int).toNat 18 } : Wd).put 1 m = _ := p2
      have o3 : (({ (lay0 m).dec with W := (List.replicate m (0 : Int)).set (0 : Int).toNat 18 } : Wd).put 1 m).2.Ok := o2
      rw [q] at o3
      exact o3
    · show oat (((List.replicate m (0 : Int)).set 0 18).set 1 _) 0 = 18
      rw [oat_ne (by omega)]
      exact oat_eq (by rw [hZ]; omega)
    · show oat (((List.replicate m (0 : Int)).set 0 18).set 1 _) 1 = m
      exact oat_eq (by rw [List.length_set, hZ]; omega)
    · show oat (((List.replicate m (0 : Int)).set 0 18).set 1 _) j = 0
      rw [oat_ne (by omega), oat_ne (by omega)]
      unfold oat
      rw [List.getElem?_replicate]
      split <;> rfl
  obtain ⟨s', e2, h'⟩ := L.rounds h1 16 (by omega) (by omega)
  have e3 : laidW m = { s' with n := 0 } := by
    unfold laidW Wd.lay
    rw [if_neg (by omega), e1, e2]
  have hR : Rm (laidW m) 18 m [] (fun _ => []) := by
    rw [e3]
    exact ⟨by show (s'.W.length : Int) = m; rw [h'.len], by omega, by omega, h'.w1, by show 18 ≤ oat s'.W 0; rw [h'.w0]; omega, by show oat s'.W 0 ≤ m; rw [h'.w0]; omega, fun p hp => by simp at hp, fun n _ _ a ha => by simp at ha, List.Pairwise.nil, fun p hp => by simp at hp, fun n _ _ => List.Pairwise.nil, fun n m _ _ _ _ _ a ha => by simp at ha, fun n n1 n2 => h'.z (1 + n) (by omega)⟩
  have hG : Gd (laidW m) 20 := by
    rw [e3]
    exact ⟨⟨by have := h'.lk.1; show -20 ≤ s'.l; omega, h'.lk.2.1, by omega⟩, h'.ok⟩
  refine ⟨⟨⟨_, hR, hR⟩, rfl, hG, hG, fun e he => by simp at he, by omega⟩, ?_⟩
  rw [e3]; exact h'.w0

/-- One call that is refused from one access on. -/
theorem ref_one {α : Type} {F : Wd → (α × Int) × Wd} {d : α} {s : Wd} {B : Nat} (h : Ex F d s 0 B) (h0 : (F s).1.2 = 0) {L : Nat} {c : Int} (hc : c ≠ 0) (hL : L < 1000) :
    ((L : Int) < (F (s.rf L c)).2.n ∧ (F (s.rf L c)).2.n = L + 1 ∧ (F (s.rf L c)).1 = (d, c)) ∨ (¬ (L : Int) < (F (s.rf L c)).2.n ∧ (F (s.rf L c)).1.2 = 0 ∧ (F (s.rf L c)).2.n ≤ B) := by
  obtain ⟨j, hj, n⟩ := h
  by_cases hlt : L < j
  · have q := n.lo L c hc hlt hL
    exact .inl ⟨by rw [q.2]; omega, by rw [q.2]; omega, q.1⟩
  · have q := n.hi L c hc (by omega) hL
    have e : (F (s.rf L c)).2.n = j := by rw [q]; show (F s).2.n = j; rw [n.rd.1]; omega
    exact .inr ⟨by rw [e]; omega, by rw [q]; exact h0, by rw [e]; omega⟩
/-- What is claimed of such a call. -/
def Refd (L c kd : Int) (R : (Int × Bool) × Wd) : Prop := (L < R.2.n → R.2.n = L + 1 ∧ R.1 = (c, true)) ∧ (¬ L < R.2.n → R.1.1 = 0 ∧ (R.2.n ≤ 24 ∨ 4 < kd))
theorem refd_of {α : Type} {F : Wd → (α × Int) × Wd} {d : α} {s : Wd} {B : Nat} (h : Ex F d s 0 B) (h0 : (F s).1.2 = 0) {L : Nat} {c kd : Int} (hc : c ≠ 0) (hL : L < 1000) (z : α → Bool) (hz : z d = true) (hB : B ≤ 24 ∨ 4 < kd) :
    Refd L c kd (((F (s.rf L c)).1.2, z (F (s.rf L c)).1.1), (F (s.rf L c)).2) := by
  rcases ref_one h h0 hc hL with ⟨a1, a2, a3⟩ | ⟨a1, a2, a3⟩
  · exact ⟨fun _ => ⟨a2, by rw [a3, hz]⟩, fun q => absurd a1 q⟩
  · exact ⟨fun q => absurd q a1, fun _ => ⟨a2, hB.imp (fun h => by show (F (s.rf L c)).2.n ≤ 24; omega) id⟩⟩
theorem callW_ref {s r : Wd} {e : Qe} {K : Int} (iv : Iv s r 400 [e] K) (hK : K < 3000000000000000000) (hnx : nx s ≤ 390) {kd x c : Int} (h0 : 0 ≤ kd) (h6 : kd ≤ 6) (hx : isW x) (hc : c ≠ 0) {L : Nat} (hL : L < 1000) :
    Refd L c kd (callW kd e.a x (({ s with n := 0 } : Wd).rf L c)) := by
  obtain ⟨t, ht⟩ : ∃ t, ({ s with n := 0 } : Wd) = t := ⟨_, rfl⟩
  have hW : t.W = s.W := by rw [← ht]
  have hrd : Rd t 0 := by rw [← ht]; exact ⟨rfl, iv.gs.lk.2.1, by have := iv.gs.lk.1; show _ ≤ s.l + ((0 : Nat) : Int); omega⟩
  have ivt : Iv t r 400 ([] ++ e :: []) K := by
    refine Iv.look iv hW rfl ?_ iv.gr iv.kb
    rw [← ht]
    exact ⟨iv.gs.lk, iv.gs.ok⟩
  have hnt : nx t ≤ 390 := by unfold nx at hnx ⊢; rw [hW]; exact hnx
  rw [ht]
  unfold callW
  have hk : kd = 0 ∨ kd = 1 ∨ kd = 2 ∨ kd = 3 ∨ kd = 4 ∨ kd = 5 ∨ kd = 6 := by omega
  rcases hk with rfl | rfl | rfl | rfl | rfl | rfl | rfl
  · simp only [if_true]
    have h1 : (Wd.qnew 0 t).1.2 = 0 := by
      rcases ivt.new with ⟨s', r', a1, a2, a3, a4, _⟩ | ⟨a, s', r', a1, _⟩
      · omega
      · rw [a1]
    exact refd_of (ex_new hrd (by decide) 0) h1 hc hL (fun y => y == 0) rfl (.inl (by omega))
  · have h1 : (Wd.qput 0 e.a x t).1.2 = 0 := by
      rcases ivt.put hx with ⟨s', r', a1, a2, a3, a4, _⟩ | ⟨a, s', r', a1, _⟩
      · omega
      · rw [a1]
    exact refd_of (ex_qput hrd (by decide) 0 e.a x) h1 hc hL (fun _ => true) rfl (.inl (by omega))
  · have h1 : (Wd.qtake 0 e.a t).1.2 = 0 := by
      cases hns : e.ns with
      | nil => obtain ⟨s', a1, _⟩ := ivt.take0 hns; rw [a1]
      | cons n ns => obtain ⟨y, ws, s', r', _, a1, _⟩ := ivt.take1 hns; rw [a1]
    exact refd_of (ex_qtake hrd (by decide) 0 e.a) h1 hc hL (fun y => y.1 == 0 && !y.2) rfl (.inl (by omega))
  · have h1 : (Wd.qfirst e.a t).1.2 = 0 := by obtain ⟨s', a1, _⟩ := ivt.first; rw [a1]
    exact refd_of (ex_first hrd (by decide) e.a) h1 hc hL (fun y => y.1 == 0 && !y.2) rfl (.inl (by omega))
  · have h1 : (Wd.qlen e.a t).1.2 = 0 := by obtain ⟨s', a1, _⟩ := ivt.len; rw [a1]
    exact refd_of (ex_len hrd (by decide) e.a) h1 hc hL (fun y => y == 0) rfl (.inl (by omega))
  · have h1 : (Wd.qwords e.a t).1.2 = 0 := by obtain ⟨s', a1, _⟩ := ivt.words; rw [a1]
    exact refd_of (ex_words hrd (by decide) e.a) h1 hc hL (fun y => (y.length : Int) == 0) rfl (.inr (by omega))
  · have h1 : (Wd.qdrop 0 e.a t).1.2 = 0 := by obtain ⟨s', r1, r', a1, _⟩ := ivt.drop; rw [a1]
    exact refd_of (ex_drop hrd (by decide) 0 e.a) h1 hc hL (fun _ => true) rfl (.inr (by omega))
end Go.Proofs.Ytadbplbifjeghaa
