
/- What serves EventsBegins (package parleylaw13). No statement of the seat is proved here. -/
import Derived.Test.YtjaldfmdjnkoeaaDoorEvT
import Derived.Test.YtjaldfmdjnkoeaaDoorEvM
import Derived.Test.YtjaldfmdjnkoeaaDoorEvBb
import Derived.Deep.QuietTactic
import Derived.BigQuiet
namespace Go.Proofs.YtjaldfmdjnkoeaaDoor
open Go.RowKit Go.Shelf

theorem tmod_in2 {a m : Int} (hm : 0 < m) : -m < a.tmod m ∧ a.tmod m < m := by
  constructor
  · rcases Int.le_total 0 a with h | h
    · have := Int.tmod_nonneg m h; omega
    · have := Int.tmod_lt_of_pos (-a) hm
      rw [Int.neg_tmod] at this; omega
  · exact Int.tmod_lt_of_pos a hm
theorem EvsAt.cut {w : World} {a : Option Addr} {n cap : Nat} {L : List Ev} (h : EvsAt w (.slice a n cap) L) (j : Nat) (hj : j ≤ L.length) : EvsAt w (.slice a j cap) (L.take j) :=
  ⟨h.els.take j hj, fun e he => h.wf e (List.mem_of_mem_take he), by have := h.big; rw [List.length_take]; omega⟩
/-- How far a history can be. -/
theorem good_of (L : List Ev) : ∃ G : Nat, G ≤ L.length ∧ (∀ n, n ≤ G → (checkL (L.take n)).2 = 0) ∧ ((checkL L = (-1, 0) ∧ G = L.length) ∨ (G < L.length ∧ (checkL L).1 = (G : Int) ∧ (checkL L).2 ≠ 0 ∧ checkL (L.take (G + 1)) = checkL L)) := by
  by_cases hz : (checkL L).2 = 0
  · exact ⟨L.length, Nat.le_refl _, fun n _ => chk_take hz, .inl ⟨chk_yes L st0 0 hz, rfl⟩⟩
  · obtain ⟨j, h1, h2, h3, h4⟩ := chk_cut L st0 0 hz
    refine ⟨j, by omega, h3, .inr ⟨h1, ?_, hz, h4⟩⟩
    have : (checkL L).1 = ((0 + j : Nat) : Int) := h2
    rw [this]; simp
theorem tries_fit {L : List Ev} (hz : (checkL L).2 = 0) (hb : L.length * 48 ≤ 140737488351232) : ∀ k, k < L.length → ((triesF tr0 (L.take k) 0).l.length + 1) * 56 ≤ 140737488355328 := fun k hk => by
  have := tries_few hz k (by omega); omega
theorem held_skip {P : Program} {ops : Array Oper} {md : Region.Mode} {S : World → Prop} {i : Nat} {oi : Oper} {K : Act → World → Prop} {fuel : Nat} {listed : Array Bool} {a : Act} {w : World} (d : Nat) (hi : ops[i]? = some oi) (hdst : oi.dst = some d)
    (hs : Region.noSelect ops = true) (hf : Region.free md ops listed i = true) (hr : (Region.ready md ops listed).contains i = true) (hw : Region.wanted oi (yielded ops a.tmps) = false) (hS : S w)
    (h : wpAnyH P md ops (atEnd K) S fuel (listed.setIfInBounds i true) (a.put (some d) undef) w) : wpAnyH P md ops (atEnd K) S (fuel + 1) listed a w :=
  wpAnyH_take hi hs hf hr (fun _ _ _ h => h.elim) (.inr ⟨hw, rfl⟩) hS (by rw [hdst]; exact h)
theorem tries_good (v : Value) (L : List Ev) (w : World) (hv : EvsAt w v L) (hg : Gv w) (h8 : 8 ≤ w.heap.size) (hc : checkL L = (-1, 0)) :
    Calls Tryd.prog 10 #[v] w fun ex w' => ∃ tv, ex = .returned (.tuple #[tv, .agg #[.int .i64 (-1), .int .i64 0]]) ∧ OwnR Ty.cl 7 42 w' w.heap.size tv (triesL L) ∧ Keeps (fun _ => False) w w' := by
  have h := tries_any v L w hv hg h8 (fun hz => tries_fit hz hv.big)
  rw [hc] at h
  refine h.mono fun ex w' ⟨tv, h1, h2, h3⟩ => ⟨tv, h1, ?_, h3⟩
  simpa using h2
theorem chk_bound : ∀ (h : List Ev) (S : St) (k : Nat), 0 ≤ (chk S h k).2 ∧ (chk S h k).2 < 1000
  | [], _, _ => by simp [chk]
  | e :: h, S, k => by
    rw [chk]
    split
    · exact chk_bound h _ _
    · exact errE_bound S e
end Go.Proofs.YtjaldfmdjnkoeaaDoor
