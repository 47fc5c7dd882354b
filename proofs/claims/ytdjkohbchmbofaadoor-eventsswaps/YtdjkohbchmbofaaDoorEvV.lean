
/- Two neighbours of unlike threads that have nothing to do with the clock, exchanged (pure). No statement of the seat is proved here. -/
import Derived.Test.YtdjkohbchmbofaaDoorEvA
namespace Go.Proofs.YtdjkohbchmbofaaDoor

def clockB (k : Int) : Bool := decide (k = 1) || decide (k = 4) || decide (k = 5) || decide (k = 6)
theorem quiet_of {k : Int} (h : clockB k = false) : k ≠ 1 ∧ k ≠ 4 ∧ k ≠ 5 ∧ k ≠ 6 := by
  unfold clockB at h
  simp only [Bool.or_eq_false_iff, decide_eq_false_iff_not] at h
  exact ⟨h.1.1.1, h.1.1.2, h.1.2, h.2⟩
theorem err_quiet {S : St} {e : Ev} (h : clockB e.kd = false) : errE S e = errS false 0 (S.sd e.th.toNat) e := by
  obtain ⟨h1, h4, h5, h6⟩ := quiet_of h
  have hc : clkB e.kd = false := by simp [clkB, h1, h4, h5]
  have hn : ∀ n, numE n (S.sd e.th.toNat) e = true := fun n => by simp [numE, h1, h4, h5, h6]
  simp only [errE, errS, hc, hn, Bool.and_false]
theorem err_form {S : St} {e : Ev} (h : errE S e = 0) : formedE e = true := by
  cases hf : formedE e with
  | true => rfl
  | false => simp [errE, errS, hf] at h
theorem sd_other {S : St} {i j : Nat} {s : Sd} {n : Int} (h : j ≠ i) : (⟨n, S.t.set i s⟩ : St).sd j = S.sd j := by
  simp only [St.sd]
  rw [List.getElem?_set_ne (Ne.symm h)]
theorem nat_ne {a b : Ev} (ha : formedE a = true) (hb : formedE b = true) (h : a.th ≠ b.th) : a.th.toNat ≠ b.th.toNat := by
  have := formed_in ha
  have := formed_in hb
  omega
theorem err_past {S : St} {a b : Ev} (hb : clockB b.kd = false) (fa : formedE a = true) (fb : formedE b = true) (h : a.th ≠ b.th) : errE (nextS S a) b = errE S b := by
  rw [err_quiet hb, err_quiet hb]
  have : (nextS S a).sd b.th.toNat = S.sd b.th.toNat := sd_other (Ne.symm (nat_ne fa fb h))
  rw [this]
theorem next_past {S : St} {a b : Ev} (ha : clockB a.kd = false) (hb : clockB b.kd = false) (fa : formedE a = true) (fb : formedE b = true) (h : a.th ≠ b.th) : nextS (nextS S a) b = nextS (nextS S b) a := by
  have hn := nat_ne fa fb h
  have e1 : (nextS S a).sd b.th.toNat = S.sd b.th.toNat := sd_other (Ne.symm hn)
  have e2 : (nextS S b).sd a.th.toNat = S.sd a.th.toNat := sd_other hn
  have n1 : ∀ T : St, (nextS T a).n = T.n := fun T => by simp [nextS, (quiet_of ha).2.2.2]
  have n2 : ∀ T : St, (nextS T b).n = T.n := fun T => by simp [nextS, (quiet_of hb).2.2.2]
  have t1 : (nextS (nextS S a) b).t = (nextS (nextS S b) a).t := by
    show (nextS S a).t.set b.th.toNat (nextSd ((nextS S a).sd b.th.toNat) b) = (nextS S b).t.set a.th.toNat (nextSd ((nextS S b).sd a.th.toNat) a)
    rw [e1, e2]
    exact List.set_comm _ _ hn
  have m1 : (nextS (nextS S a) b).n = (nextS (nextS S b) a).n := by rw [n2, n1, n1, n2]
  cases h1 : nextS (nextS S a) b
  cases h2 : nextS (nextS S b) a
  rw [h1, h2] at t1 m1
  simp only at t1 m1
  rw [t1, m1]
theorem swap_head {a b : Ev} (ha : clockB a.kd = false) (hb : clockB b.kd = false) (h : a.th ≠ b.th) (S : St) (r : List Ev) (k : Nat) (hz : (chk S (a :: b :: r) k).2 = 0) : (chk S (b :: a :: r) k).2 = 0 := by
  rw [chk] at hz
  by_cases h1 : errE S a = 0
  · rw [if_pos h1, chk] at hz
    by_cases h2 : errE (nextS S a) b = 0
    · rw [if_pos h2] at hz
      have fa := err_form h1
      have fb := err_form h2
      rw [err_past hb fa fb h] at h2
      have h3 : errE (nextS S b) a = 0 := by rw [err_past ha fb fa (Ne.symm h)]; exact h1
      rw [chk, if_pos h2, chk, if_pos h3, ← next_past ha hb fa fb h]
      exact hz
    · rw [if_neg h2] at hz; exact absurd hz h2
  · rw [if_neg h1] at hz; exact absurd hz h1
theorem swap_at {a b : Ev} (ha : clockB a.kd = false) (hb : clockB b.kd = false) (h : a.th ≠ b.th) (r : List Ev) : ∀ (p : List Ev) (S : St) (k : Nat), (chk S (p ++ a :: b :: r) k).2 = 0 → (chk S (p ++ b :: a :: r) k).2 = 0
  | [], S, k, hz => swap_head ha hb h S r k hz
  | e :: p, S, k, hz => by
    rw [List.cons_append, chk] at hz ⊢
    by_cases h1 : errE S e = 0
    · rw [if_pos h1] at hz ⊢; exact swap_at ha hb h r p _ _ hz
    · rw [if_neg h1] at hz; exact absurd hz h1
theorem split2 {L : List Ev} {n : Nat} (hn : n + 1 < L.length) : L = L.take n ++ L[n] :: L[n + 1] :: L.drop (n + 2) := by
  rw [List.getElem_cons_drop hn, List.getElem_cons_drop (by omega : n < L.length), List.take_append_drop]
theorem split2s {L : List Ev} {n : Nat} (hn : n + 1 < L.length) : (L.set n L[n + 1]).set (n + 1) L[n] = L.take n ++ L[n + 1] :: L[n] :: L.drop (n + 2) := by
  generalize hx : L[n] = x
  generalize hy : L[n + 1] = y
  rw [List.set_eq_take_append_cons_drop, if_pos (by simpa using hn)]
  rw [List.set_eq_take_append_cons_drop, if_pos (by omega)]
  have hl : (L.take n).length = n := by simp; omega
  have h1 : (L.take n).take (n + 1) = L.take n := List.take_of_length_le (by omega)
  have h2 : (L.take n).drop (n + 1 + 1) = [] := List.drop_eq_nil_of_le (by omega)
  rw [List.take_append, List.drop_append, hl, show n + 1 - n = 1 by omega, show n + 1 + 1 - n = 2 by omega, h1, h2]
  simp
/-- The law's own fact. -/
theorem swap_all {L : List Ev} {n : Nat} (hn : n + 1 < L.length) (ha : clockB L[n].kd = false) (hb : clockB L[n + 1].kd = false) (h : L[n].th ≠ L[n + 1].th) : (checkL L).2 = 0 ↔ (checkL ((L.set n L[n + 1]).set (n + 1) L[n])).2 = 0 := by
  rw [split2s hn]
  unfold checkL
  constructor
  · intro hz
    rw [split2 hn] at hz
    exact swap_at ha hb h _ _ _ _ hz
  · intro hz
    rw [split2 hn]
    exact swap_at hb ha (Ne.symm h) _ _ _ _ hz
end Go.Proofs.YtdjkohbchmbofaaDoor
